/- by. -/
import Derived.Test.YticbjhogdfpdkaaDoorZf
namespace Go.Proofs.YticbjhogdfpdkaaDoor
set_option maxRecDepth 8000
open Go.RowKit Go.Shelf

/-- The three variables of by. -/
structure ByI (w : World) (n m : Nat) (s t : Int) (b c : Bool) (W : World) : Prop where
  x : NumAt W w.heap.size n s b
  y : NumAt W (w.heap.size + 1) m t c
  r : NumAt W (w.heap.size + 1 + 1) 0 0 false
  bl : Below w.heap.size w W
theorem ByI.later {w : World} {n m : Nat} {s t : Int} {b c : Bool} {W W' : World} (h : ByI w n m s t b c W) (hb : Below W.heap.size W W') : ByI w n m s t b c W' :=
  ⟨h.x.below hb, h.y.below hb, h.r.below hb, h.bl.trans (hb.mono h.bl.size)⟩
theorem ByI.start (w : World) (n m : Nat) (s t : Int) (b c : Bool) : ByI w n m s t b c (((w.alloc (.cells (nC n s b) 45)).alloc (.cells (nC m t c) 45)).alloc (.cells (nC 0 0 false) 45)) :=
  ⟨old_block _ _ _ _ (old_block _ _ _ _ (at_block _ _ _ rfl)), old_block _ _ _ _ (at_block _ _ _ (by simp)), at_block _ _ _ (by simp), (((Below.refl _ _).alloc (Nat.le_refl _) _).alloc (by simp) _).alloc (by simp; omega) _⟩
theorem ByI.sz {w : World} {n m : Nat} {s t : Int} {b c : Bool} {W : World} (h : ByI w n m s t b c W) : w.heap.size + 1 + 1 < W.heap.size := blk_lt h.r
theorem ByI.drew {w : World} {n m : Nat} {s t : Int} {b c : Bool} {W : World} (h : ByI w n m s t b c W) : ByI w n m s t b c W.drew := h.later ⟨rfl, rfl, rfl, Nat.le_refl _, fun _ _ => rfl⟩
theorem below_new (W : World) (o : Obj) : Below W.heap.size W (W.alloc o) := (Below.refl _ _).alloc (Nat.le_refl _) _
theorem ArrAt.below {W W' : World} {B n : Nat} (h : ArrAt W B n) (hb : Below W.heap.size W W') : ArrAt W' B n := (hb.block _ (blk_lt h)).trans h
theorem ByI.seta {w : World} {n m p : Nat} {s t : Int} {b c : Bool} {W : World} (h : ByI w n m s t b c W) (hp : w.heap.size + 1 + 1 < p) (l : List Value) : ByI w n m s t b c (W.setCells p 0 l) :=
  ⟨(heap_setCells_other _ _ _ _ _ (by omega)).trans h.x, (heap_setCells_other _ _ _ _ _ (by omega)).trans h.y, (heap_setCells_other _ _ _ _ _ (by omega)).trans h.r, below_setCells _ _ _ h.bl (by omega)⟩
theorem ByI.arr {w : World} {n m : Nat} {s t : Int} {b c : Bool} {W : World} (h : ByI w n m s t b c W) : w.heap.size + 1 + 1 < W.heap.size := h.sz

theorem ByI.rowp {w : World} {n m p : Nat} {s t : Int} {b c : Bool} {W : World} (h : ByI w n m s t b c W) (hp : w.heap.size + 1 + 1 < p) (l : Array Value) : ByI w n m s t b c (W.setRow p l) :=
  ⟨h.x.row (by omega), h.y.row (by omega), h.r.row (by omega), below_row h.bl (by omega)⟩

/-- The dividend and the divisor of by. -/
def upN (n : Nat) (p : Int) : Nat := moved n (max p 0)
def loN (m : Nat) (p : Int) : Nat := moved m (max (-p) 0)

set_option maxRecDepth 100000 in
set_option maxHeartbeats 40000000 in
theorem by_any (n m : Nat) (s t z : Int) (b c : Bool) (w : World) (hn : n < 10 ^ 128) (hm : m < 10 ^ 128) (h1 : 0 ≤ s) (h2 : s ≤ 400) (h3 : 0 ≤ t) (h4 : t ≤ 400) (h5 : 0 ≤ z) (h6 : z ≤ 400) (h0 : 0 < loN m (z + t - s)) :
    Calls Tryd.prog 51 #[.agg (nC n s b), .agg (nC m t c), .int .i64 z] w fun e w' => e = .returned (.agg (nC (upN n (z + t - s) / loN m (z + t - s)) z (b != c))) ∧ Below w.heap.size w w' := by
  have HS := Lib.hid (ByI.start w n m s t b c)
  have r1 := HS.out.x.scale
  have r2 := HS.out.y.scale
  rw [← zero45] at r1 r2
  have p1 : -1000 ≤ z + t - s := by omega
  have p2 : z + t - s ≤ 1000 := by omega
  have e1 : IntKind.i64.wrap (z + t) = z + t := IntWalk.i64_in _ (by omega)
  have e2 : IntKind.i64.wrap (z + t - s) = z + t - s := IntWalk.i64_in _ (by omega)
  have e3 : IntKind.i64.wrap (-(z + t - s)) = -(z + t - s) := IntWalk.i64_in _ (by omega)
  have HE3 := Lib.hid e3
  clear e3
  have S1 := Lib.hid fun wx => shifted_any n (max (z + t - s) 0) wx hn (by omega) (by omega)
  have S2 := Lib.hid fun wx => shifted_any m (max (-(z + t - s)) 0) wx hm (by omega) (by omega)
  have QU := Lib.hid fun A B wx (ha : DigAt wx A (upN n (z + t - s))) (hb : DigAt wx B (loN m (z + t - s))) => quotient_any A B (upN n (z + t - s)) (loN m (z + t - s)) wx ha hb (moved_lt hn _) (moved_lt hm _) h0
  rw [show moved n (max (z + t - s) 0) = upN n (z + t - s) from rfl] at S1
  rw [show moved m (max (-(z + t - s)) 0) = loN m (z + t - s) from rfl] at S2
  generalize upN n (z + t - s) = U at S1 QU ⊢
  generalize loN m (z + t - s) = L at S2 QU ⊢
  clear hn hm h0 h1 h2 h3 h4 h5 h6 p1 p2
  have hu := under43
  have z1 : (Tryd.prog.info? 43).map (·.size) = some (dL n).length := by rw [size43, dL_len]
  have z2 : (Tryd.prog.info? 43).map (·.size) = some (dL m).length := by rw [size43, dL_len]
  go_enter Tryd.func51, Tryd.ntmps51
  go_wp2_with fail
  rw [zero45]
  clear e1 e2
  generalize z + t - s = P at S1 S2 HE3 ⊢
  have e3 := HE3.out
  have hd1 : (dL n).toArray = dC n := rfl
  have hd2 : (dL m).toArray = dC m := rfl
  have I1 := HS.out.drew
  refine wp_region_held_drew (S := fun w' => w'.rangeAt w.heap.size 0 (dL n) ∧ w'.rangeAt (w.heap.size + 1) 0 (dL m)) (by kernel_rfl) ⟨range_arr I1.x.dig, range_arr I1.y.dig⟩ (fun hHeld => ?_)
  generalize World.drew _ = W1 at I1 hHeld ⊢
  refine wpAnyH_take (i := 0) (oi := ({ dst := some 19, op := Op.fieldAddr 45 (Operand.tmp 3) 0, type := 0, pos := "number.go:222", after := #[], guard := none } : Oper)) (v := ?_) rfl (by kernel_rfl) (by kernel_rfl) (by kernel_rfl) (fun _ _ _ h => h) (Or.inl ⟨by rfl, ?_⟩) hHeld ?_
  rotate_left 1
  · intro w' hSw
    go_simp
    all_goals with_reducible rfl
  simp only [Act.put, List.setIfInBounds_toArray, List.set_cons_zero, List.set_cons_succ]
  refine wpAnyH_take (i := 2) (oi := ({ dst := some 21, op := Op.move (Operand.tmp 7), type := 3, pos := "number.go:222", after := #[], guard := none } : Oper)) (v := ?_) rfl (by kernel_rfl) (by kernel_rfl) (by kernel_rfl) (fun _ _ _ h => h) (Or.inl ⟨by rfl, ?_⟩) hHeld ?_
  rotate_left 1
  · intro w' hSw
    go_simp
    all_goals with_reducible rfl
  simp only [Act.put, List.setIfInBounds_toArray, List.set_cons_zero, List.set_cons_succ]
  refine wpAnyH_take (i := 5) (oi := ({ dst := some 24, op := Op.fieldAddr 45 (Operand.tmp 4) 0, type := 0, pos := "number.go:222", after := #[], guard := none } : Oper)) (v := ?_) rfl (by kernel_rfl) (by kernel_rfl) (by kernel_rfl) (fun _ _ _ h => h) (Or.inl ⟨by rfl, ?_⟩) hHeld ?_
  rotate_left 1
  · intro w' hSw
    go_simp
    all_goals with_reducible rfl
  simp only [Act.put, List.setIfInBounds_toArray, List.set_cons_zero, List.set_cons_succ]
  refine wpAnyH_take (i := 7) (oi := ({ dst := some 26, op := Op.move (Operand.tmp 7), type := 3, pos := "number.go:222", after := #[], guard := none } : Oper)) (v := ?_) rfl (by kernel_rfl) (by kernel_rfl) (by kernel_rfl) (fun _ _ _ h => h) (Or.inl ⟨by rfl, ?_⟩) hHeld ?_
  rotate_left 1
  · intro w' hSw
    go_simp
    all_goals with_reducible rfl
  simp only [Act.put, List.setIfInBounds_toArray, List.set_cons_zero, List.set_cons_succ]
  refine wpAnyH_take (i := 1) (oi := ({ dst := some 20, op := Op.load 43 (Operand.tmp 19), type := 43, pos := "number.go:222", after := #[{ on := 0, ground := Ground.data }], guard := none } : Oper)) (v := _) rfl (by kernel_rfl) (by kernel_rfl) (by kernel_rfl) (fun _ _ _ h => h) (yieldsIf_load_mid (by rfl) _ _ rfl _ _ rfl (dL n) _ (fun _ h => h.1) hu rfl z1) hHeld ?_
  simp only [Act.put, List.setIfInBounds_toArray, List.set_cons_zero, List.set_cons_succ, hd1]
  refine wpAnyH_take (i := 6) (oi := ({ dst := some 25, op := Op.load 43 (Operand.tmp 24), type := 43, pos := "number.go:222", after := #[{ on := 5, ground := Ground.data }], guard := none } : Oper)) (v := _) rfl (by kernel_rfl) (by kernel_rfl) (by kernel_rfl) (fun _ _ _ h => h) (yieldsIf_load_mid (by rfl) _ _ rfl _ _ rfl (dL m) _ (fun _ h => h.2) hu rfl z2) hHeld ?_
  simp only [Act.put, List.setIfInBounds_toArray, List.set_cons_zero, List.set_cons_succ, hd2]
  refine wpAnyH_take (i := 3) (oi := ({ dst := some 22, op := Op.call { callee := Callee.builtin Builtin.max, args := #[Operand.tmp 21, Operand.const (Value.int IntKind.i64 0)], argTypes := #[3, 3] }, type := 3, pos := "number.go:222", after := #[{ on := 2, ground := Ground.data }], guard := none } : Oper)) (v := ?_) rfl (by kernel_rfl) (by kernel_rfl) (by kernel_rfl) (fun _ _ _ h => h) (Or.inl ⟨by rfl, ?_⟩) hHeld ?_
  rotate_left 1
  · intro w' hSw
    go_simp
    all_goals with_reducible rfl
  simp only [Act.put, List.setIfInBounds_toArray, List.set_cons_zero, List.set_cons_succ]
  refine wpAnyH_take (i := 8) (oi := ({ dst := some 27, op := Op.unOp UnOp.neg 3 (Operand.tmp 26), type := 3, pos := "number.go:222", after := #[{ on := 7, ground := Ground.data }], guard := none } : Oper)) (v := ?_) rfl (by kernel_rfl) (by kernel_rfl) (by kernel_rfl) (fun _ _ _ h => h) (Or.inl ⟨by rfl, ?_⟩) hHeld ?_
  rotate_left 1
  · intro w' hSw
    go_simp
    all_goals with_reducible rfl
  simp only [Act.put, List.setIfInBounds_toArray, List.set_cons_zero, List.set_cons_succ]
  refine wpAnyH_take (i := 9) (oi := ({ dst := some 28, op := Op.call { callee := Callee.builtin Builtin.max, args := #[Operand.tmp 27, Operand.const (Value.int IntKind.i64 0)], argTypes := #[3, 3] }, type := 3, pos := "number.go:222", after := #[{ on := 8, ground := Ground.data }], guard := none } : Oper)) (v := ?_) rfl (by kernel_rfl) (by kernel_rfl) (by kernel_rfl) (fun _ _ _ h => h) (Or.inl ⟨by rfl, ?_⟩) hHeld ?_
  rotate_left 1
  · intro w' hSw
    go_simp
    all_goals with_reducible rfl
  simp only [Act.put, List.setIfInBounds_toArray, List.set_cons_zero, List.set_cons_succ]
  clear r1 r2 hHeld e3 z1 z2 hu hd1 hd2
  refine wpAnyH_ready (rs := [4, 11, 12]) (by kernel_rfl) (by simp) ?_
  refine AllReadyH.cons (o := ({ dst := some 23, op := Op.call { callee := Callee.value (Operand.func 90), args := #[Operand.tmp 20, Operand.tmp 22], argTypes := #[43, 3] }, type := 43, pos := "number.go:222", after := #[{ on := 1, ground := Ground.data }, { on := 3, ground := Ground.data }], guard := none } : Oper)) rfl (fun K hK => ?_) (AllReadyH.cons (o := ({ dst := some 8, op := Op.alloc 43, type := 0, pos := "number.go:222", after := #[], guard := none } : Oper)) rfl (fun K hK => ?_) (AllReadyH.cons (o := ({ dst := some 9, op := Op.alloc 43, type := 0, pos := "number.go:222", after := #[], guard := none } : Oper)) rfl (fun K hK => ?_) AllReadyH.nil))
  · rw [if_pos (by rfl)]
    go_simp
    go_at_call 90
    refine (S1.out _).mono ?_
    rintro e W2 ⟨rfl, hb⟩
    have I2 := I1.later hb
    clear hb
    dsimp only
    refine hK.out _ _ ⟨range_arr I2.x.dig, range_arr I2.y.dig⟩ (fun _ => ?_)
    clear hK K I1
    refine wpAnyH_ready (rs := [10, 11, 12]) (by kernel_rfl) (by simp) ?_
    refine AllReadyH.cons (o := ({ dst := some 29, op := Op.call { callee := Callee.value (Operand.func 90), args := #[Operand.tmp 25, Operand.tmp 28], argTypes := #[43, 3] }, type := 43, pos := "number.go:222", after := #[{ on := 6, ground := Ground.data }, { on := 9, ground := Ground.data }, { on := 4, ground := Ground.chain }], guard := none } : Oper)) rfl (fun K hK => ?_) (AllReadyH.cons (o := ({ dst := some 8, op := Op.alloc 43, type := 0, pos := "number.go:222", after := #[], guard := none } : Oper)) rfl (fun K hK => ?_) (AllReadyH.cons (o := ({ dst := some 9, op := Op.alloc 43, type := 0, pos := "number.go:222", after := #[], guard := none } : Oper)) rfl (fun K hK => ?_) AllReadyH.nil))
    · rw [if_pos (by rfl)]
      go_simp
      go_at_call 90
      refine (S2.out _).mono ?_
      rintro e W3 ⟨rfl, hb⟩
      have I3 := I2.later hb
      clear hb
      dsimp only
      refine hK.out _ _ ⟨range_arr I3.x.dig, range_arr I3.y.dig⟩ (fun _ => ?_)
      clear hK K I2
      refine wpAnyH_ready (rs := [11, 12]) (by kernel_rfl) (by simp) ?_
      refine AllReadyH.cons (o := ({ dst := some 8, op := Op.alloc 43, type := 0, pos := "number.go:222", after := #[], guard := none } : Oper)) rfl (fun K hK => ?_) (AllReadyH.cons (o := ({ dst := some 9, op := Op.alloc 43, type := 0, pos := "number.go:222", after := #[], guard := none } : Oper)) rfl (fun K hK => ?_) AllReadyH.nil)
      · rw [if_pos (by rfl)]
        go_simp
        rw [zero43]
        have I4 := I3.later (below_new W3 (.cells (dC 0) 43))
        have A11 : ArrAt (W3.alloc (.cells (dC 0) 43)) W3.heap.size 0 := at_block _ _ _ rfl
        have l11 : w.heap.size + 1 + 1 < W3.heap.size := I3.sz
        generalize W3.alloc (.cells (dC 0) 43) = W4 at I4 A11 ⊢
        obtain ⟨p11, hp⟩ : ∃ p, W3.heap.size = p := ⟨_, rfl⟩
        rw [hp] at A11 l11 ⊢
        clear hp
        refine hK.out _ _ ⟨range_arr I4.x.dig, range_arr I4.y.dig⟩ (fun _ => ?_)
        clear hK K I3
        refine wpAnyH_ready (rs := [12]) (by kernel_rfl) (by simp) ?_
        refine AllReadyH.cons (o := ({ dst := some 9, op := Op.alloc 43, type := 0, pos := "number.go:222", after := #[], guard := none } : Oper)) rfl (fun K hK => ?_) AllReadyH.nil
        rw [if_pos (by rfl)]
        go_simp
        rw [zero43]
        have I5 := I4.later (below_new W4 (.cells (dC 0) 43))
        have A12 : ArrAt (W4.alloc (.cells (dC 0) 43)) W4.heap.size 0 := at_block _ _ _ rfl
        have l12 : w.heap.size + 1 + 1 < W4.heap.size := I4.sz
        have ne11 : p11 < W4.heap.size := blk_lt A11
        replace A11 := A11.below (below_new W4 (.cells (dC 0) 43))
        generalize W4.alloc (.cells (dC 0) 43) = W5 at I5 A12 A11 ⊢
        obtain ⟨p12, hp⟩ : ∃ p, W4.heap.size = p := ⟨_, rfl⟩
        rw [hp] at A12 l12 ne11 ⊢
        clear hp
        refine hK.out _ _ ⟨range_arr I5.x.dig, range_arr I5.y.dig⟩ (fun _ => ?_)
        clear hK K I4
        refine wpAnyH_ready (rs := [13]) (by kernel_rfl) (by simp) ?_
        refine AllReadyH.cons (o := ({ dst := none, op := Op.store 43 (Operand.tmp 8) (Operand.tmp 23), type := 0, pos := "number.go:222", after := #[{ on := 11, ground := Ground.data }, { on := 4, ground := Ground.data }, { on := 10, ground := Ground.chain }, { on := 0, ground := Ground.phase }, { on := 1, ground := Ground.phase }, { on := 2, ground := Ground.phase }, { on := 3, ground := Ground.phase }, { on := 4, ground := Ground.phase }, { on := 5, ground := Ground.textOnly Departure.lateStores }, { on := 6, ground := Ground.textOnly Departure.lateStores }, { on := 7, ground := Ground.textOnly Departure.lateStores }, { on := 8, ground := Ground.textOnly Departure.lateStores }, { on := 9, ground := Ground.textOnly Departure.lateStoresUnsure }, { on := 10, ground := Ground.phase }, { on := 11, ground := Ground.phase }, { on := 12, ground := Ground.phase }], guard := none } : Oper)) rfl (fun K hK => ?_) AllReadyH.nil
        rw [if_pos (by rfl)]
        refine wp_store_row _ _ _ rfl p11 _ rfl rfl 43 _ A11 (by rw [size43, dC_size]) (by rw [dC_size, dC_size]) (dC_one _) ?_
        try simp only [Act.put]
        have I6 := I5.rowp l11 (dC U)
        have B11 : ArrAt (W5.setRow p11 (dC U)) p11 U := setRow_heap _ _ _ _ _ _ A11
        have B12 : ArrAt (W5.setRow p11 (dC U)) p12 0 := (setRow_other _ _ _ _ (by omega)).trans A12
        generalize W5.setRow p11 (dC U) = W6 at I6 B11 B12 ⊢
        refine hK.out _ _ ⟨range_arr I6.x.dig, range_arr I6.y.dig⟩ (fun _ => ?_)
        clear hK K I5
        refine wpAnyH_ready (rs := [14]) (by kernel_rfl) (by simp) ?_
        refine AllReadyH.cons (o := ({ dst := none, op := Op.store 43 (Operand.tmp 9) (Operand.tmp 29), type := 0, pos := "number.go:222", after := #[{ on := 12, ground := Ground.data }, { on := 10, ground := Ground.data }, { on := 13, ground := Ground.chain }, { on := 0, ground := Ground.phase }, { on := 1, ground := Ground.phase }, { on := 2, ground := Ground.phase }, { on := 3, ground := Ground.phase }, { on := 4, ground := Ground.phase }, { on := 5, ground := Ground.phase }, { on := 6, ground := Ground.phase }, { on := 7, ground := Ground.phase }, { on := 8, ground := Ground.phase }, { on := 9, ground := Ground.phase }, { on := 10, ground := Ground.phase }, { on := 11, ground := Ground.phase }, { on := 12, ground := Ground.phase }, { on := 13, ground := Ground.phase }], guard := none } : Oper)) rfl (fun K hK => ?_) AllReadyH.nil
        rw [if_pos (by rfl)]
        refine wp_store_row _ _ _ rfl p12 _ rfl rfl 43 _ B12 (by rw [size43, dC_size]) (by rw [dC_size, dC_size]) (dC_one _) ?_
        try simp only [Act.put]
        have I7 := I6.rowp l12 (dC L)
        have C12 : ArrAt (W6.setRow p12 (dC L)) p12 L := setRow_heap _ _ _ _ _ _ B12
        have C11 : ArrAt (W6.setRow p12 (dC L)) p11 U := (setRow_other _ _ _ _ (by omega)).trans B11
        generalize W6.setRow p12 (dC L) = W7 at I7 C11 C12 ⊢
        refine hK.out _ _ ⟨range_arr I7.x.dig, range_arr I7.y.dig⟩ (fun _ => ?_)
        clear hK K I6
        refine wpAnyH_done (by kernel_rfl) ?_ _
        go_wp2_with (first | refine wpList_storeV rfl 45 _ _ rfl ⟨w.heap.size + 1 + 1, 0, none⟩ rfl (.agg (nC (U / L) z (!b == c))) rfl _ (store_num J4.out.r) ?_ | refine wpList_build45 rfl _ _ _ rfl (U / L) z (!b == c) rfl rfl rfl ?_ | refine wpList_loadV rfl 43 _ rfl ⟨v1.heap.size, 0, none⟩ rfl _ (load_dig Z1.out.at) ?_ | (refine wpList_storeV rfl 43 _ _ rfl ⟨v1.heap.size + 1, 0, none⟩ rfl (.agg (dC (U % L))) rfl _ (store_dig Y2.out) ?_; have J4 := Lib.hid (J3.out.rowp (show w.heap.size + 1 + 1 < v1.heap.size + 1 by omega) (dC (U % L))); have Z1 := Lib.hid (show ArrAt (V3.setRow (v1.heap.size + 1) (dC (U % L))) v1.heap.size (U / L) from (setRow_other _ _ _ _ (by omega)).trans Y1.out); generalize V3.setRow (v1.heap.size + 1) (dC (U % L)) = V4 at J4 Z1 ⊢; have s1 := J4.out.x.sign; have s2 := J4.out.y.sign) | (rw [zero43]; refine wpList_storeV rfl 43 _ _ rfl ⟨v1.heap.size, 0, none⟩ rfl (.agg (dC (U / L))) rfl _ (store_dig X1.out) ?_; have J3 := Lib.hid (J2.out.rowp lv (dC (U / L))); have Y1 := Lib.hid (show ArrAt (((v1.alloc (.cells (dC 0) 43)).alloc (.cells (dC 0) 43)).setRow v1.heap.size (dC (U / L))) v1.heap.size (U / L) from setRow_heap _ _ _ _ _ _ X1.out); have Y2 := Lib.hid (show ArrAt (((v1.alloc (.cells (dC 0) 43)).alloc (.cells (dC 0) 43)).setRow v1.heap.size (dC (U / L))) (v1.heap.size + 1) 0 from (setRow_other _ _ _ _ (by omega)).trans X2.out); generalize ((v1.alloc (.cells (dC 0) 43)).alloc (.cells (dC 0) 43)).setRow v1.heap.size (dC (U / L)) = V3 at J3 Y1 Y2 ⊢) | (go_at_call 91; refine (QU.out p11 p12 _ C11.at C12.at).mono ?_; rintro e v1 ⟨rfl, hq⟩; have J1 := Lib.hid ((I7.later hq).later (below_new v1 (.cells (dC 0) 43))); have J2 := Lib.hid (J1.out.later (below_new _ (.cells (dC 0) 43))); have X1 := Lib.hid (show ArrAt ((v1.alloc (.cells (dC 0) 43)).alloc (.cells (dC 0) 43)) v1.heap.size 0 from old_block _ _ _ _ (at_block _ _ _ rfl)); have X2 := Lib.hid (show ArrAt ((v1.alloc (.cells (dC 0) 43)).alloc (.cells (dC 0) 43)) (v1.heap.size + 1) 0 from at_block _ _ _ (by simp)); have lv := (I7.later hq).sz; clear hq))
        exact bodyPost_ret (ret_num rfl rfl J4.out.r.put) rfl ⟨rfl, below_row J4.out.bl (by omega)⟩
      · rw [if_pos (by rfl)]
        go_simp
        rw [zero43]
        have I4 := I3.later (below_new W3 (.cells (dC 0) 43))
        have A12 : ArrAt (W3.alloc (.cells (dC 0) 43)) W3.heap.size 0 := at_block _ _ _ rfl
        have l12 : w.heap.size + 1 + 1 < W3.heap.size := I3.sz
        generalize W3.alloc (.cells (dC 0) 43) = W4 at I4 A12 ⊢
        obtain ⟨p12, hp⟩ : ∃ p, W3.heap.size = p := ⟨_, rfl⟩
        rw [hp] at A12 l12 ⊢
        clear hp
        refine hK.out _ _ ⟨range_arr I4.x.dig, range_arr I4.y.dig⟩ (fun _ => ?_)
        clear hK K I3
        refine wpAnyH_ready (rs := [11]) (by kernel_rfl) (by simp) ?_
        refine AllReadyH.cons (o := ({ dst := some 8, op := Op.alloc 43, type := 0, pos := "number.go:222", after := #[], guard := none } : Oper)) rfl (fun K hK => ?_) AllReadyH.nil
        rw [if_pos (by rfl)]
        go_simp
        rw [zero43]
        have I5 := I4.later (below_new W4 (.cells (dC 0) 43))
        have A11 : ArrAt (W4.alloc (.cells (dC 0) 43)) W4.heap.size 0 := at_block _ _ _ rfl
        have l11 : w.heap.size + 1 + 1 < W4.heap.size := I4.sz
        have ne12 : p12 < W4.heap.size := blk_lt A12
        replace A12 := A12.below (below_new W4 (.cells (dC 0) 43))
        generalize W4.alloc (.cells (dC 0) 43) = W5 at I5 A11 A12 ⊢
        obtain ⟨p11, hp⟩ : ∃ p, W4.heap.size = p := ⟨_, rfl⟩
        rw [hp] at A11 l11 ne12 ⊢
        clear hp
        refine hK.out _ _ ⟨range_arr I5.x.dig, range_arr I5.y.dig⟩ (fun _ => ?_)
        clear hK K I4
        refine wpAnyH_ready (rs := [13]) (by kernel_rfl) (by simp) ?_
        refine AllReadyH.cons (o := ({ dst := none, op := Op.store 43 (Operand.tmp 8) (Operand.tmp 23), type := 0, pos := "number.go:222", after := #[{ on := 11, ground := Ground.data }, { on := 4, ground := Ground.data }, { on := 10, ground := Ground.chain }, { on := 0, ground := Ground.phase }, { on := 1, ground := Ground.phase }, { on := 2, ground := Ground.phase }, { on := 3, ground := Ground.phase }, { on := 4, ground := Ground.phase }, { on := 5, ground := Ground.textOnly Departure.lateStores }, { on := 6, ground := Ground.textOnly Departure.lateStores }, { on := 7, ground := Ground.textOnly Departure.lateStores }, { on := 8, ground := Ground.textOnly Departure.lateStores }, { on := 9, ground := Ground.textOnly Departure.lateStoresUnsure }, { on := 10, ground := Ground.phase }, { on := 11, ground := Ground.phase }, { on := 12, ground := Ground.phase }], guard := none } : Oper)) rfl (fun K hK => ?_) AllReadyH.nil
        rw [if_pos (by rfl)]
        refine wp_store_row _ _ _ rfl p11 _ rfl rfl 43 _ A11 (by rw [size43, dC_size]) (by rw [dC_size, dC_size]) (dC_one _) ?_
        try simp only [Act.put]
        have I6 := I5.rowp l11 (dC U)
        have B11 : ArrAt (W5.setRow p11 (dC U)) p11 U := setRow_heap _ _ _ _ _ _ A11
        have B12 : ArrAt (W5.setRow p11 (dC U)) p12 0 := (setRow_other _ _ _ _ (by omega)).trans A12
        generalize W5.setRow p11 (dC U) = W6 at I6 B11 B12 ⊢
        refine hK.out _ _ ⟨range_arr I6.x.dig, range_arr I6.y.dig⟩ (fun _ => ?_)
        clear hK K I5
        refine wpAnyH_ready (rs := [14]) (by kernel_rfl) (by simp) ?_
        refine AllReadyH.cons (o := ({ dst := none, op := Op.store 43 (Operand.tmp 9) (Operand.tmp 29), type := 0, pos := "number.go:222", after := #[{ on := 12, ground := Ground.data }, { on := 10, ground := Ground.data }, { on := 13, ground := Ground.chain }, { on := 0, ground := Ground.phase }, { on := 1, ground := Ground.phase }, { on := 2, ground := Ground.phase }, { on := 3, ground := Ground.phase }, { on := 4, ground := Ground.phase }, { on := 5, ground := Ground.phase }, { on := 6, ground := Ground.phase }, { on := 7, ground := Ground.phase }, { on := 8, ground := Ground.phase }, { on := 9, ground := Ground.phase }, { on := 10, ground := Ground.phase }, { on := 11, ground := Ground.phase }, { on := 12, ground := Ground.phase }, { on := 13, ground := Ground.phase }], guard := none } : Oper)) rfl (fun K hK => ?_) AllReadyH.nil
        rw [if_pos (by rfl)]
        refine wp_store_row _ _ _ rfl p12 _ rfl rfl 43 _ B12 (by rw [size43, dC_size]) (by rw [dC_size, dC_size]) (dC_one _) ?_
        try simp only [Act.put]
        have I7 := I6.rowp l12 (dC L)
        have C12 : ArrAt (W6.setRow p12 (dC L)) p12 L := setRow_heap _ _ _ _ _ _ B12
        have C11 : ArrAt (W6.setRow p12 (dC L)) p11 U := (setRow_other _ _ _ _ (by omega)).trans B11
        generalize W6.setRow p12 (dC L) = W7 at I7 C11 C12 ⊢
        refine hK.out _ _ ⟨range_arr I7.x.dig, range_arr I7.y.dig⟩ (fun _ => ?_)
        clear hK K I6
        refine wpAnyH_done (by kernel_rfl) ?_ _
        go_wp2_with (first | refine wpList_storeV rfl 45 _ _ rfl ⟨w.heap.size + 1 + 1, 0, none⟩ rfl (.agg (nC (U / L) z (!b == c))) rfl _ (store_num J4.out.r) ?_ | refine wpList_build45 rfl _ _ _ rfl (U / L) z (!b == c) rfl rfl rfl ?_ | refine wpList_loadV rfl 43 _ rfl ⟨v1.heap.size, 0, none⟩ rfl _ (load_dig Z1.out.at) ?_ | (refine wpList_storeV rfl 43 _ _ rfl ⟨v1.heap.size + 1, 0, none⟩ rfl (.agg (dC (U % L))) rfl _ (store_dig Y2.out) ?_; have J4 := Lib.hid (J3.out.rowp (show w.heap.size + 1 + 1 < v1.heap.size + 1 by omega) (dC (U % L))); have Z1 := Lib.hid (show ArrAt (V3.setRow (v1.heap.size + 1) (dC (U % L))) v1.heap.size (U / L) from (setRow_other _ _ _ _ (by omega)).trans Y1.out); generalize V3.setRow (v1.heap.size + 1) (dC (U % L)) = V4 at J4 Z1 ⊢; have s1 := J4.out.x.sign; have s2 := J4.out.y.sign) | (rw [zero43]; refine wpList_storeV rfl 43 _ _ rfl ⟨v1.heap.size, 0, none⟩ rfl (.agg (dC (U / L))) rfl _ (store_dig X1.out) ?_; have J3 := Lib.hid (J2.out.rowp lv (dC (U / L))); have Y1 := Lib.hid (show ArrAt (((v1.alloc (.cells (dC 0) 43)).alloc (.cells (dC 0) 43)).setRow v1.heap.size (dC (U / L))) v1.heap.size (U / L) from setRow_heap _ _ _ _ _ _ X1.out); have Y2 := Lib.hid (show ArrAt (((v1.alloc (.cells (dC 0) 43)).alloc (.cells (dC 0) 43)).setRow v1.heap.size (dC (U / L))) (v1.heap.size + 1) 0 from (setRow_other _ _ _ _ (by omega)).trans X2.out); generalize ((v1.alloc (.cells (dC 0) 43)).alloc (.cells (dC 0) 43)).setRow v1.heap.size (dC (U / L)) = V3 at J3 Y1 Y2 ⊢) | (go_at_call 91; refine (QU.out p11 p12 _ C11.at C12.at).mono ?_; rintro e v1 ⟨rfl, hq⟩; have J1 := Lib.hid ((I7.later hq).later (below_new v1 (.cells (dC 0) 43))); have J2 := Lib.hid (J1.out.later (below_new _ (.cells (dC 0) 43))); have X1 := Lib.hid (show ArrAt ((v1.alloc (.cells (dC 0) 43)).alloc (.cells (dC 0) 43)) v1.heap.size 0 from old_block _ _ _ _ (at_block _ _ _ rfl)); have X2 := Lib.hid (show ArrAt ((v1.alloc (.cells (dC 0) 43)).alloc (.cells (dC 0) 43)) (v1.heap.size + 1) 0 from at_block _ _ _ (by simp)); have lv := (I7.later hq).sz; clear hq))
        exact bodyPost_ret (ret_num rfl rfl J4.out.r.put) rfl ⟨rfl, below_row J4.out.bl (by omega)⟩
    · rw [if_pos (by rfl)]
      go_simp
      rw [zero43]
      have I3 := I2.later (below_new W2 (.cells (dC 0) 43))
      have A11 : ArrAt (W2.alloc (.cells (dC 0) 43)) W2.heap.size 0 := at_block _ _ _ rfl
      have l11 : w.heap.size + 1 + 1 < W2.heap.size := I2.sz
      generalize W2.alloc (.cells (dC 0) 43) = W3 at I3 A11 ⊢
      obtain ⟨p11, hp⟩ : ∃ p, W2.heap.size = p := ⟨_, rfl⟩
      rw [hp] at A11 l11 ⊢
      clear hp
      refine hK.out _ _ ⟨range_arr I3.x.dig, range_arr I3.y.dig⟩ (fun _ => ?_)
      clear hK K I2
      refine wpAnyH_ready (rs := [10, 12]) (by kernel_rfl) (by simp) ?_
      refine AllReadyH.cons (o := ({ dst := some 29, op := Op.call { callee := Callee.value (Operand.func 90), args := #[Operand.tmp 25, Operand.tmp 28], argTypes := #[43, 3] }, type := 43, pos := "number.go:222", after := #[{ on := 6, ground := Ground.data }, { on := 9, ground := Ground.data }, { on := 4, ground := Ground.chain }], guard := none } : Oper)) rfl (fun K hK => ?_) (AllReadyH.cons (o := ({ dst := some 9, op := Op.alloc 43, type := 0, pos := "number.go:222", after := #[], guard := none } : Oper)) rfl (fun K hK => ?_) AllReadyH.nil)
      · rw [if_pos (by rfl)]
        go_simp
        go_at_call 90
        refine (S2.out _).mono ?_
        rintro e W4 ⟨rfl, hb⟩
        have I4 := I3.later hb
        replace A11 := A11.below hb
        clear hb
        dsimp only
        refine hK.out _ _ ⟨range_arr I4.x.dig, range_arr I4.y.dig⟩ (fun _ => ?_)
        clear hK K I3
        refine wpAnyH_ready (rs := [12]) (by kernel_rfl) (by simp) ?_
        refine AllReadyH.cons (o := ({ dst := some 9, op := Op.alloc 43, type := 0, pos := "number.go:222", after := #[], guard := none } : Oper)) rfl (fun K hK => ?_) AllReadyH.nil
        rw [if_pos (by rfl)]
        go_simp
        rw [zero43]
        have I5 := I4.later (below_new W4 (.cells (dC 0) 43))
        have A12 : ArrAt (W4.alloc (.cells (dC 0) 43)) W4.heap.size 0 := at_block _ _ _ rfl
        have l12 : w.heap.size + 1 + 1 < W4.heap.size := I4.sz
        have ne11 : p11 < W4.heap.size := blk_lt A11
        replace A11 := A11.below (below_new W4 (.cells (dC 0) 43))
        generalize W4.alloc (.cells (dC 0) 43) = W5 at I5 A12 A11 ⊢
        obtain ⟨p12, hp⟩ : ∃ p, W4.heap.size = p := ⟨_, rfl⟩
        rw [hp] at A12 l12 ne11 ⊢
        clear hp
        refine hK.out _ _ ⟨range_arr I5.x.dig, range_arr I5.y.dig⟩ (fun _ => ?_)
        clear hK K I4
        refine wpAnyH_ready (rs := [13]) (by kernel_rfl) (by simp) ?_
        refine AllReadyH.cons (o := ({ dst := none, op := Op.store 43 (Operand.tmp 8) (Operand.tmp 23), type := 0, pos := "number.go:222", after := #[{ on := 11, ground := Ground.data }, { on := 4, ground := Ground.data }, { on := 10, ground := Ground.chain }, { on := 0, ground := Ground.phase }, { on := 1, ground := Ground.phase }, { on := 2, ground := Ground.phase }, { on := 3, ground := Ground.phase }, { on := 4, ground := Ground.phase }, { on := 5, ground := Ground.textOnly Departure.lateStores }, { on := 6, ground := Ground.textOnly Departure.lateStores }, { on := 7, ground := Ground.textOnly Departure.lateStores }, { on := 8, ground := Ground.textOnly Departure.lateStores }, { on := 9, ground := Ground.textOnly Departure.lateStoresUnsure }, { on := 10, ground := Ground.phase }, { on := 11, ground := Ground.phase }, { on := 12, ground := Ground.phase }], guard := none } : Oper)) rfl (fun K hK => ?_) AllReadyH.nil
        rw [if_pos (by rfl)]
        refine wp_store_row _ _ _ rfl p11 _ rfl rfl 43 _ A11 (by rw [size43, dC_size]) (by rw [dC_size, dC_size]) (dC_one _) ?_
        try simp only [Act.put]
        have I6 := I5.rowp l11 (dC U)
        have B11 : ArrAt (W5.setRow p11 (dC U)) p11 U := setRow_heap _ _ _ _ _ _ A11
        have B12 : ArrAt (W5.setRow p11 (dC U)) p12 0 := (setRow_other _ _ _ _ (by omega)).trans A12
        generalize W5.setRow p11 (dC U) = W6 at I6 B11 B12 ⊢
        refine hK.out _ _ ⟨range_arr I6.x.dig, range_arr I6.y.dig⟩ (fun _ => ?_)
        clear hK K I5
        refine wpAnyH_ready (rs := [14]) (by kernel_rfl) (by simp) ?_
        refine AllReadyH.cons (o := ({ dst := none, op := Op.store 43 (Operand.tmp 9) (Operand.tmp 29), type := 0, pos := "number.go:222", after := #[{ on := 12, ground := Ground.data }, { on := 10, ground := Ground.data }, { on := 13, ground := Ground.chain }, { on := 0, ground := Ground.phase }, { on := 1, ground := Ground.phase }, { on := 2, ground := Ground.phase }, { on := 3, ground := Ground.phase }, { on := 4, ground := Ground.phase }, { on := 5, ground := Ground.phase }, { on := 6, ground := Ground.phase }, { on := 7, ground := Ground.phase }, { on := 8, ground := Ground.phase }, { on := 9, ground := Ground.phase }, { on := 10, ground := Ground.phase }, { on := 11, ground := Ground.phase }, { on := 12, ground := Ground.phase }, { on := 13, ground := Ground.phase }], guard := none } : Oper)) rfl (fun K hK => ?_) AllReadyH.nil
        rw [if_pos (by rfl)]
        refine wp_store_row _ _ _ rfl p12 _ rfl rfl 43 _ B12 (by rw [size43, dC_size]) (by rw [dC_size, dC_size]) (dC_one _) ?_
        try simp only [Act.put]
        have I7 := I6.rowp l12 (dC L)
        have C12 : ArrAt (W6.setRow p12 (dC L)) p12 L := setRow_heap _ _ _ _ _ _ B12
        have C11 : ArrAt (W6.setRow p12 (dC L)) p11 U := (setRow_other _ _ _ _ (by omega)).trans B11
        generalize W6.setRow p12 (dC L) = W7 at I7 C11 C12 ⊢
        refine hK.out _ _ ⟨range_arr I7.x.dig, range_arr I7.y.dig⟩ (fun _ => ?_)
        clear hK K I6
        refine wpAnyH_done (by kernel_rfl) ?_ _
        go_wp2_with (first | refine wpList_storeV rfl 45 _ _ rfl ⟨w.heap.size + 1 + 1, 0, none⟩ rfl (.agg (nC (U / L) z (!b == c))) rfl _ (store_num J4.out.r) ?_ | refine wpList_build45 rfl _ _ _ rfl (U / L) z (!b == c) rfl rfl rfl ?_ | refine wpList_loadV rfl 43 _ rfl ⟨v1.heap.size, 0, none⟩ rfl _ (load_dig Z1.out.at) ?_ | (refine wpList_storeV rfl 43 _ _ rfl ⟨v1.heap.size + 1, 0, none⟩ rfl (.agg (dC (U % L))) rfl _ (store_dig Y2.out) ?_; have J4 := Lib.hid (J3.out.rowp (show w.heap.size + 1 + 1 < v1.heap.size + 1 by omega) (dC (U % L))); have Z1 := Lib.hid (show ArrAt (V3.setRow (v1.heap.size + 1) (dC (U % L))) v1.heap.size (U / L) from (setRow_other _ _ _ _ (by omega)).trans Y1.out); generalize V3.setRow (v1.heap.size + 1) (dC (U % L)) = V4 at J4 Z1 ⊢; have s1 := J4.out.x.sign; have s2 := J4.out.y.sign) | (rw [zero43]; refine wpList_storeV rfl 43 _ _ rfl ⟨v1.heap.size, 0, none⟩ rfl (.agg (dC (U / L))) rfl _ (store_dig X1.out) ?_; have J3 := Lib.hid (J2.out.rowp lv (dC (U / L))); have Y1 := Lib.hid (show ArrAt (((v1.alloc (.cells (dC 0) 43)).alloc (.cells (dC 0) 43)).setRow v1.heap.size (dC (U / L))) v1.heap.size (U / L) from setRow_heap _ _ _ _ _ _ X1.out); have Y2 := Lib.hid (show ArrAt (((v1.alloc (.cells (dC 0) 43)).alloc (.cells (dC 0) 43)).setRow v1.heap.size (dC (U / L))) (v1.heap.size + 1) 0 from (setRow_other _ _ _ _ (by omega)).trans X2.out); generalize ((v1.alloc (.cells (dC 0) 43)).alloc (.cells (dC 0) 43)).setRow v1.heap.size (dC (U / L)) = V3 at J3 Y1 Y2 ⊢) | (go_at_call 91; refine (QU.out p11 p12 _ C11.at C12.at).mono ?_; rintro e v1 ⟨rfl, hq⟩; have J1 := Lib.hid ((I7.later hq).later (below_new v1 (.cells (dC 0) 43))); have J2 := Lib.hid (J1.out.later (below_new _ (.cells (dC 0) 43))); have X1 := Lib.hid (show ArrAt ((v1.alloc (.cells (dC 0) 43)).alloc (.cells (dC 0) 43)) v1.heap.size 0 from old_block _ _ _ _ (at_block _ _ _ rfl)); have X2 := Lib.hid (show ArrAt ((v1.alloc (.cells (dC 0) 43)).alloc (.cells (dC 0) 43)) (v1.heap.size + 1) 0 from at_block _ _ _ (by simp)); have lv := (I7.later hq).sz; clear hq))
        exact bodyPost_ret (ret_num rfl rfl J4.out.r.put) rfl ⟨rfl, below_row J4.out.bl (by omega)⟩
      · rw [if_pos (by rfl)]
        go_simp
        rw [zero43]
        have I4 := I3.later (below_new W3 (.cells (dC 0) 43))
        have A12 : ArrAt (W3.alloc (.cells (dC 0) 43)) W3.heap.size 0 := at_block _ _ _ rfl
        have l12 : w.heap.size + 1 + 1 < W3.heap.size := I3.sz
        have ne11 : p11 < W3.heap.size := blk_lt A11
        replace A11 := A11.below (below_new W3 (.cells (dC 0) 43))
        generalize W3.alloc (.cells (dC 0) 43) = W4 at I4 A12 A11 ⊢
        obtain ⟨p12, hp⟩ : ∃ p, W3.heap.size = p := ⟨_, rfl⟩
        rw [hp] at A12 l12 ne11 ⊢
        clear hp
        refine hK.out _ _ ⟨range_arr I4.x.dig, range_arr I4.y.dig⟩ (fun _ => ?_)
        clear hK K I3
        refine wpAnyH_ready (rs := [10]) (by kernel_rfl) (by simp) ?_
        refine AllReadyH.cons (o := ({ dst := some 29, op := Op.call { callee := Callee.value (Operand.func 90), args := #[Operand.tmp 25, Operand.tmp 28], argTypes := #[43, 3] }, type := 43, pos := "number.go:222", after := #[{ on := 6, ground := Ground.data }, { on := 9, ground := Ground.data }, { on := 4, ground := Ground.chain }], guard := none } : Oper)) rfl (fun K hK => ?_) AllReadyH.nil
        rw [if_pos (by rfl)]
        go_simp
        go_at_call 90
        refine (S2.out _).mono ?_
        rintro e W5 ⟨rfl, hb⟩
        have I5 := I4.later hb
        replace A11 := A11.below hb
        replace A12 := A12.below hb
        clear hb
        dsimp only
        refine hK.out _ _ ⟨range_arr I5.x.dig, range_arr I5.y.dig⟩ (fun _ => ?_)
        clear hK K I4
        refine wpAnyH_ready (rs := [13]) (by kernel_rfl) (by simp) ?_
        refine AllReadyH.cons (o := ({ dst := none, op := Op.store 43 (Operand.tmp 8) (Operand.tmp 23), type := 0, pos := "number.go:222", after := #[{ on := 11, ground := Ground.data }, { on := 4, ground := Ground.data }, { on := 10, ground := Ground.chain }, { on := 0, ground := Ground.phase }, { on := 1, ground := Ground.phase }, { on := 2, ground := Ground.phase }, { on := 3, ground := Ground.phase }, { on := 4, ground := Ground.phase }, { on := 5, ground := Ground.textOnly Departure.lateStores }, { on := 6, ground := Ground.textOnly Departure.lateStores }, { on := 7, ground := Ground.textOnly Departure.lateStores }, { on := 8, ground := Ground.textOnly Departure.lateStores }, { on := 9, ground := Ground.textOnly Departure.lateStoresUnsure }, { on := 10, ground := Ground.phase }, { on := 11, ground := Ground.phase }, { on := 12, ground := Ground.phase }], guard := none } : Oper)) rfl (fun K hK => ?_) AllReadyH.nil
        rw [if_pos (by rfl)]
        refine wp_store_row _ _ _ rfl p11 _ rfl rfl 43 _ A11 (by rw [size43, dC_size]) (by rw [dC_size, dC_size]) (dC_one _) ?_
        try simp only [Act.put]
        have I6 := I5.rowp l11 (dC U)
        have B11 : ArrAt (W5.setRow p11 (dC U)) p11 U := setRow_heap _ _ _ _ _ _ A11
        have B12 : ArrAt (W5.setRow p11 (dC U)) p12 0 := (setRow_other _ _ _ _ (by omega)).trans A12
        generalize W5.setRow p11 (dC U) = W6 at I6 B11 B12 ⊢
        refine hK.out _ _ ⟨range_arr I6.x.dig, range_arr I6.y.dig⟩ (fun _ => ?_)
        clear hK K I5
        refine wpAnyH_ready (rs := [14]) (by kernel_rfl) (by simp) ?_
        refine AllReadyH.cons (o := ({ dst := none, op := Op.store 43 (Operand.tmp 9) (Operand.tmp 29), type := 0, pos := "number.go:222", after := #[{ on := 12, ground := Ground.data }, { on := 10, ground := Ground.data }, { on := 13, ground := Ground.chain }, { on := 0, ground := Ground.phase }, { on := 1, ground := Ground.phase }, { on := 2, ground := Ground.phase }, { on := 3, ground := Ground.phase }, { on := 4, ground := Ground.phase }, { on := 5, ground := Ground.phase }, { on := 6, ground := Ground.phase }, { on := 7, ground := Ground.phase }, { on := 8, ground := Ground.phase }, { on := 9, ground := Ground.phase }, { on := 10, ground := Ground.phase }, { on := 11, ground := Ground.phase }, { on := 12, ground := Ground.phase }, { on := 13, ground := Ground.phase }], guard := none } : Oper)) rfl (fun K hK => ?_) AllReadyH.nil
        rw [if_pos (by rfl)]
        refine wp_store_row _ _ _ rfl p12 _ rfl rfl 43 _ B12 (by rw [size43, dC_size]) (by rw [dC_size, dC_size]) (dC_one _) ?_
        try simp only [Act.put]
        have I7 := I6.rowp l12 (dC L)
        have C12 : ArrAt (W6.setRow p12 (dC L)) p12 L := setRow_heap _ _ _ _ _ _ B12
        have C11 : ArrAt (W6.setRow p12 (dC L)) p11 U := (setRow_other _ _ _ _ (by omega)).trans B11
        generalize W6.setRow p12 (dC L) = W7 at I7 C11 C12 ⊢
        refine hK.out _ _ ⟨range_arr I7.x.dig, range_arr I7.y.dig⟩ (fun _ => ?_)
        clear hK K I6
        refine wpAnyH_done (by kernel_rfl) ?_ _
        go_wp2_with (first | refine wpList_storeV rfl 45 _ _ rfl ⟨w.heap.size + 1 + 1, 0, none⟩ rfl (.agg (nC (U / L) z (!b == c))) rfl _ (store_num J4.out.r) ?_ | refine wpList_build45 rfl _ _ _ rfl (U / L) z (!b == c) rfl rfl rfl ?_ | refine wpList_loadV rfl 43 _ rfl ⟨v1.heap.size, 0, none⟩ rfl _ (load_dig Z1.out.at) ?_ | (refine wpList_storeV rfl 43 _ _ rfl ⟨v1.heap.size + 1, 0, none⟩ rfl (.agg (dC (U % L))) rfl _ (store_dig Y2.out) ?_; have J4 := Lib.hid (J3.out.rowp (show w.heap.size + 1 + 1 < v1.heap.size + 1 by omega) (dC (U % L))); have Z1 := Lib.hid (show ArrAt (V3.setRow (v1.heap.size + 1) (dC (U % L))) v1.heap.size (U / L) from (setRow_other _ _ _ _ (by omega)).trans Y1.out); generalize V3.setRow (v1.heap.size + 1) (dC (U % L)) = V4 at J4 Z1 ⊢; have s1 := J4.out.x.sign; have s2 := J4.out.y.sign) | (rw [zero43]; refine wpList_storeV rfl 43 _ _ rfl ⟨v1.heap.size, 0, none⟩ rfl (.agg (dC (U / L))) rfl _ (store_dig X1.out) ?_; have J3 := Lib.hid (J2.out.rowp lv (dC (U / L))); have Y1 := Lib.hid (show ArrAt (((v1.alloc (.cells (dC 0) 43)).alloc (.cells (dC 0) 43)).setRow v1.heap.size (dC (U / L))) v1.heap.size (U / L) from setRow_heap _ _ _ _ _ _ X1.out); have Y2 := Lib.hid (show ArrAt (((v1.alloc (.cells (dC 0) 43)).alloc (.cells (dC 0) 43)).setRow v1.heap.size (dC (U / L))) (v1.heap.size + 1) 0 from (setRow_other _ _ _ _ (by omega)).trans X2.out); generalize ((v1.alloc (.cells (dC 0) 43)).alloc (.cells (dC 0) 43)).setRow v1.heap.size (dC (U / L)) = V3 at J3 Y1 Y2 ⊢) | (go_at_call 91; refine (QU.out p11 p12 _ C11.at C12.at).mono ?_; rintro e v1 ⟨rfl, hq⟩; have J1 := Lib.hid ((I7.later hq).later (below_new v1 (.cells (dC 0) 43))); have J2 := Lib.hid (J1.out.later (below_new _ (.cells (dC 0) 43))); have X1 := Lib.hid (show ArrAt ((v1.alloc (.cells (dC 0) 43)).alloc (.cells (dC 0) 43)) v1.heap.size 0 from old_block _ _ _ _ (at_block _ _ _ rfl)); have X2 := Lib.hid (show ArrAt ((v1.alloc (.cells (dC 0) 43)).alloc (.cells (dC 0) 43)) (v1.heap.size + 1) 0 from at_block _ _ _ (by simp)); have lv := (I7.later hq).sz; clear hq))
        exact bodyPost_ret (ret_num rfl rfl J4.out.r.put) rfl ⟨rfl, below_row J4.out.bl (by omega)⟩
    · rw [if_pos (by rfl)]
      go_simp
      rw [zero43]
      have I3 := I2.later (below_new W2 (.cells (dC 0) 43))
      have A12 : ArrAt (W2.alloc (.cells (dC 0) 43)) W2.heap.size 0 := at_block _ _ _ rfl
      have l12 : w.heap.size + 1 + 1 < W2.heap.size := I2.sz
      generalize W2.alloc (.cells (dC 0) 43) = W3 at I3 A12 ⊢
      obtain ⟨p12, hp⟩ : ∃ p, W2.heap.size = p := ⟨_, rfl⟩
      rw [hp] at A12 l12 ⊢
      clear hp
      refine hK.out _ _ ⟨range_arr I3.x.dig, range_arr I3.y.dig⟩ (fun _ => ?_)
      clear hK K I2
      refine wpAnyH_ready (rs := [10, 11]) (by kernel_rfl) (by simp) ?_
      refine AllReadyH.cons (o := ({ dst := some 29, op := Op.call { callee := Callee.value (Operand.func 90), args := #[Operand.tmp 25, Operand.tmp 28], argTypes := #[43, 3] }, type := 43, pos := "number.go:222", after := #[{ on := 6, ground := Ground.data }, { on := 9, ground := Ground.data }, { on := 4, ground := Ground.chain }], guard := none } : Oper)) rfl (fun K hK => ?_) (AllReadyH.cons (o := ({ dst := some 8, op := Op.alloc 43, type := 0, pos := "number.go:222", after := #[], guard := none } : Oper)) rfl (fun K hK => ?_) AllReadyH.nil)
      · rw [if_pos (by rfl)]
        go_simp
        go_at_call 90
        refine (S2.out _).mono ?_
        rintro e W4 ⟨rfl, hb⟩
        have I4 := I3.later hb
        replace A12 := A12.below hb
        clear hb
        dsimp only
        refine hK.out _ _ ⟨range_arr I4.x.dig, range_arr I4.y.dig⟩ (fun _ => ?_)
        clear hK K I3
        refine wpAnyH_ready (rs := [11]) (by kernel_rfl) (by simp) ?_
        refine AllReadyH.cons (o := ({ dst := some 8, op := Op.alloc 43, type := 0, pos := "number.go:222", after := #[], guard := none } : Oper)) rfl (fun K hK => ?_) AllReadyH.nil
        rw [if_pos (by rfl)]
        go_simp
        rw [zero43]
        have I5 := I4.later (below_new W4 (.cells (dC 0) 43))
        have A11 : ArrAt (W4.alloc (.cells (dC 0) 43)) W4.heap.size 0 := at_block _ _ _ rfl
        have l11 : w.heap.size + 1 + 1 < W4.heap.size := I4.sz
        have ne12 : p12 < W4.heap.size := blk_lt A12
        replace A12 := A12.below (below_new W4 (.cells (dC 0) 43))
        generalize W4.alloc (.cells (dC 0) 43) = W5 at I5 A11 A12 ⊢
        obtain ⟨p11, hp⟩ : ∃ p, W4.heap.size = p := ⟨_, rfl⟩
        rw [hp] at A11 l11 ne12 ⊢
        clear hp
        refine hK.out _ _ ⟨range_arr I5.x.dig, range_arr I5.y.dig⟩ (fun _ => ?_)
        clear hK K I4
        refine wpAnyH_ready (rs := [13]) (by kernel_rfl) (by simp) ?_
        refine AllReadyH.cons (o := ({ dst := none, op := Op.store 43 (Operand.tmp 8) (Operand.tmp 23), type := 0, pos := "number.go:222", after := #[{ on := 11, ground := Ground.data }, { on := 4, ground := Ground.data }, { on := 10, ground := Ground.chain }, { on := 0, ground := Ground.phase }, { on := 1, ground := Ground.phase }, { on := 2, ground := Ground.phase }, { on := 3, ground := Ground.phase }, { on := 4, ground := Ground.phase }, { on := 5, ground := Ground.textOnly Departure.lateStores }, { on := 6, ground := Ground.textOnly Departure.lateStores }, { on := 7, ground := Ground.textOnly Departure.lateStores }, { on := 8, ground := Ground.textOnly Departure.lateStores }, { on := 9, ground := Ground.textOnly Departure.lateStoresUnsure }, { on := 10, ground := Ground.phase }, { on := 11, ground := Ground.phase }, { on := 12, ground := Ground.phase }], guard := none } : Oper)) rfl (fun K hK => ?_) AllReadyH.nil
        rw [if_pos (by rfl)]
        refine wp_store_row _ _ _ rfl p11 _ rfl rfl 43 _ A11 (by rw [size43, dC_size]) (by rw [dC_size, dC_size]) (dC_one _) ?_
        try simp only [Act.put]
        have I6 := I5.rowp l11 (dC U)
        have B11 : ArrAt (W5.setRow p11 (dC U)) p11 U := setRow_heap _ _ _ _ _ _ A11
        have B12 : ArrAt (W5.setRow p11 (dC U)) p12 0 := (setRow_other _ _ _ _ (by omega)).trans A12
        generalize W5.setRow p11 (dC U) = W6 at I6 B11 B12 ⊢
        refine hK.out _ _ ⟨range_arr I6.x.dig, range_arr I6.y.dig⟩ (fun _ => ?_)
        clear hK K I5
        refine wpAnyH_ready (rs := [14]) (by kernel_rfl) (by simp) ?_
        refine AllReadyH.cons (o := ({ dst := none, op := Op.store 43 (Operand.tmp 9) (Operand.tmp 29), type := 0, pos := "number.go:222", after := #[{ on := 12, ground := Ground.data }, { on := 10, ground := Ground.data }, { on := 13, ground := Ground.chain }, { on := 0, ground := Ground.phase }, { on := 1, ground := Ground.phase }, { on := 2, ground := Ground.phase }, { on := 3, ground := Ground.phase }, { on := 4, ground := Ground.phase }, { on := 5, ground := Ground.phase }, { on := 6, ground := Ground.phase }, { on := 7, ground := Ground.phase }, { on := 8, ground := Ground.phase }, { on := 9, ground := Ground.phase }, { on := 10, ground := Ground.phase }, { on := 11, ground := Ground.phase }, { on := 12, ground := Ground.phase }, { on := 13, ground := Ground.phase }], guard := none } : Oper)) rfl (fun K hK => ?_) AllReadyH.nil
        rw [if_pos (by rfl)]
        refine wp_store_row _ _ _ rfl p12 _ rfl rfl 43 _ B12 (by rw [size43, dC_size]) (by rw [dC_size, dC_size]) (dC_one _) ?_
        try simp only [Act.put]
        have I7 := I6.rowp l12 (dC L)
        have C12 : ArrAt (W6.setRow p12 (dC L)) p12 L := setRow_heap _ _ _ _ _ _ B12
        have C11 : ArrAt (W6.setRow p12 (dC L)) p11 U := (setRow_other _ _ _ _ (by omega)).trans B11
        generalize W6.setRow p12 (dC L) = W7 at I7 C11 C12 ⊢
        refine hK.out _ _ ⟨range_arr I7.x.dig, range_arr I7.y.dig⟩ (fun _ => ?_)
        clear hK K I6
        refine wpAnyH_done (by kernel_rfl) ?_ _
        go_wp2_with (first | refine wpList_storeV rfl 45 _ _ rfl ⟨w.heap.size + 1 + 1, 0, none⟩ rfl (.agg (nC (U / L) z (!b == c))) rfl _ (store_num J4.out.r) ?_ | refine wpList_build45 rfl _ _ _ rfl (U / L) z (!b == c) rfl rfl rfl ?_ | refine wpList_loadV rfl 43 _ rfl ⟨v1.heap.size, 0, none⟩ rfl _ (load_dig Z1.out.at) ?_ | (refine wpList_storeV rfl 43 _ _ rfl ⟨v1.heap.size + 1, 0, none⟩ rfl (.agg (dC (U % L))) rfl _ (store_dig Y2.out) ?_; have J4 := Lib.hid (J3.out.rowp (show w.heap.size + 1 + 1 < v1.heap.size + 1 by omega) (dC (U % L))); have Z1 := Lib.hid (show ArrAt (V3.setRow (v1.heap.size + 1) (dC (U % L))) v1.heap.size (U / L) from (setRow_other _ _ _ _ (by omega)).trans Y1.out); generalize V3.setRow (v1.heap.size + 1) (dC (U % L)) = V4 at J4 Z1 ⊢; have s1 := J4.out.x.sign; have s2 := J4.out.y.sign) | (rw [zero43]; refine wpList_storeV rfl 43 _ _ rfl ⟨v1.heap.size, 0, none⟩ rfl (.agg (dC (U / L))) rfl _ (store_dig X1.out) ?_; have J3 := Lib.hid (J2.out.rowp lv (dC (U / L))); have Y1 := Lib.hid (show ArrAt (((v1.alloc (.cells (dC 0) 43)).alloc (.cells (dC 0) 43)).setRow v1.heap.size (dC (U / L))) v1.heap.size (U / L) from setRow_heap _ _ _ _ _ _ X1.out); have Y2 := Lib.hid (show ArrAt (((v1.alloc (.cells (dC 0) 43)).alloc (.cells (dC 0) 43)).setRow v1.heap.size (dC (U / L))) (v1.heap.size + 1) 0 from (setRow_other _ _ _ _ (by omega)).trans X2.out); generalize ((v1.alloc (.cells (dC 0) 43)).alloc (.cells (dC 0) 43)).setRow v1.heap.size (dC (U / L)) = V3 at J3 Y1 Y2 ⊢) | (go_at_call 91; refine (QU.out p11 p12 _ C11.at C12.at).mono ?_; rintro e v1 ⟨rfl, hq⟩; have J1 := Lib.hid ((I7.later hq).later (below_new v1 (.cells (dC 0) 43))); have J2 := Lib.hid (J1.out.later (below_new _ (.cells (dC 0) 43))); have X1 := Lib.hid (show ArrAt ((v1.alloc (.cells (dC 0) 43)).alloc (.cells (dC 0) 43)) v1.heap.size 0 from old_block _ _ _ _ (at_block _ _ _ rfl)); have X2 := Lib.hid (show ArrAt ((v1.alloc (.cells (dC 0) 43)).alloc (.cells (dC 0) 43)) (v1.heap.size + 1) 0 from at_block _ _ _ (by simp)); have lv := (I7.later hq).sz; clear hq))
        exact bodyPost_ret (ret_num rfl rfl J4.out.r.put) rfl ⟨rfl, below_row J4.out.bl (by omega)⟩
      · rw [if_pos (by rfl)]
        go_simp
        rw [zero43]
        have I4 := I3.later (below_new W3 (.cells (dC 0) 43))
        have A11 : ArrAt (W3.alloc (.cells (dC 0) 43)) W3.heap.size 0 := at_block _ _ _ rfl
        have l11 : w.heap.size + 1 + 1 < W3.heap.size := I3.sz
        have ne12 : p12 < W3.heap.size := blk_lt A12
        replace A12 := A12.below (below_new W3 (.cells (dC 0) 43))
        generalize W3.alloc (.cells (dC 0) 43) = W4 at I4 A11 A12 ⊢
        obtain ⟨p11, hp⟩ : ∃ p, W3.heap.size = p := ⟨_, rfl⟩
        rw [hp] at A11 l11 ne12 ⊢
        clear hp
        refine hK.out _ _ ⟨range_arr I4.x.dig, range_arr I4.y.dig⟩ (fun _ => ?_)
        clear hK K I3
        refine wpAnyH_ready (rs := [10]) (by kernel_rfl) (by simp) ?_
        refine AllReadyH.cons (o := ({ dst := some 29, op := Op.call { callee := Callee.value (Operand.func 90), args := #[Operand.tmp 25, Operand.tmp 28], argTypes := #[43, 3] }, type := 43, pos := "number.go:222", after := #[{ on := 6, ground := Ground.data }, { on := 9, ground := Ground.data }, { on := 4, ground := Ground.chain }], guard := none } : Oper)) rfl (fun K hK => ?_) AllReadyH.nil
        rw [if_pos (by rfl)]
        go_simp
        go_at_call 90
        refine (S2.out _).mono ?_
        rintro e W5 ⟨rfl, hb⟩
        have I5 := I4.later hb
        replace A11 := A11.below hb
        replace A12 := A12.below hb
        clear hb
        dsimp only
        refine hK.out _ _ ⟨range_arr I5.x.dig, range_arr I5.y.dig⟩ (fun _ => ?_)
        clear hK K I4
        refine wpAnyH_ready (rs := [13]) (by kernel_rfl) (by simp) ?_
        refine AllReadyH.cons (o := ({ dst := none, op := Op.store 43 (Operand.tmp 8) (Operand.tmp 23), type := 0, pos := "number.go:222", after := #[{ on := 11, ground := Ground.data }, { on := 4, ground := Ground.data }, { on := 10, ground := Ground.chain }, { on := 0, ground := Ground.phase }, { on := 1, ground := Ground.phase }, { on := 2, ground := Ground.phase }, { on := 3, ground := Ground.phase }, { on := 4, ground := Ground.phase }, { on := 5, ground := Ground.textOnly Departure.lateStores }, { on := 6, ground := Ground.textOnly Departure.lateStores }, { on := 7, ground := Ground.textOnly Departure.lateStores }, { on := 8, ground := Ground.textOnly Departure.lateStores }, { on := 9, ground := Ground.textOnly Departure.lateStoresUnsure }, { on := 10, ground := Ground.phase }, { on := 11, ground := Ground.phase }, { on := 12, ground := Ground.phase }], guard := none } : Oper)) rfl (fun K hK => ?_) AllReadyH.nil
        rw [if_pos (by rfl)]
        refine wp_store_row _ _ _ rfl p11 _ rfl rfl 43 _ A11 (by rw [size43, dC_size]) (by rw [dC_size, dC_size]) (dC_one _) ?_
        try simp only [Act.put]
        have I6 := I5.rowp l11 (dC U)
        have B11 : ArrAt (W5.setRow p11 (dC U)) p11 U := setRow_heap _ _ _ _ _ _ A11
        have B12 : ArrAt (W5.setRow p11 (dC U)) p12 0 := (setRow_other _ _ _ _ (by omega)).trans A12
        generalize W5.setRow p11 (dC U) = W6 at I6 B11 B12 ⊢
        refine hK.out _ _ ⟨range_arr I6.x.dig, range_arr I6.y.dig⟩ (fun _ => ?_)
        clear hK K I5
        refine wpAnyH_ready (rs := [14]) (by kernel_rfl) (by simp) ?_
        refine AllReadyH.cons (o := ({ dst := none, op := Op.store 43 (Operand.tmp 9) (Operand.tmp 29), type := 0, pos := "number.go:222", after := #[{ on := 12, ground := Ground.data }, { on := 10, ground := Ground.data }, { on := 13, ground := Ground.chain }, { on := 0, ground := Ground.phase }, { on := 1, ground := Ground.phase }, { on := 2, ground := Ground.phase }, { on := 3, ground := Ground.phase }, { on := 4, ground := Ground.phase }, { on := 5, ground := Ground.phase }, { on := 6, ground := Ground.phase }, { on := 7, ground := Ground.phase }, { on := 8, ground := Ground.phase }, { on := 9, ground := Ground.phase }, { on := 10, ground := Ground.phase }, { on := 11, ground := Ground.phase }, { on := 12, ground := Ground.phase }, { on := 13, ground := Ground.phase }], guard := none } : Oper)) rfl (fun K hK => ?_) AllReadyH.nil
        rw [if_pos (by rfl)]
        refine wp_store_row _ _ _ rfl p12 _ rfl rfl 43 _ B12 (by rw [size43, dC_size]) (by rw [dC_size, dC_size]) (dC_one _) ?_
        try simp only [Act.put]
        have I7 := I6.rowp l12 (dC L)
        have C12 : ArrAt (W6.setRow p12 (dC L)) p12 L := setRow_heap _ _ _ _ _ _ B12
        have C11 : ArrAt (W6.setRow p12 (dC L)) p11 U := (setRow_other _ _ _ _ (by omega)).trans B11
        generalize W6.setRow p12 (dC L) = W7 at I7 C11 C12 ⊢
        refine hK.out _ _ ⟨range_arr I7.x.dig, range_arr I7.y.dig⟩ (fun _ => ?_)
        clear hK K I6
        refine wpAnyH_done (by kernel_rfl) ?_ _
        go_wp2_with (first | refine wpList_storeV rfl 45 _ _ rfl ⟨w.heap.size + 1 + 1, 0, none⟩ rfl (.agg (nC (U / L) z (!b == c))) rfl _ (store_num J4.out.r) ?_ | refine wpList_build45 rfl _ _ _ rfl (U / L) z (!b == c) rfl rfl rfl ?_ | refine wpList_loadV rfl 43 _ rfl ⟨v1.heap.size, 0, none⟩ rfl _ (load_dig Z1.out.at) ?_ | (refine wpList_storeV rfl 43 _ _ rfl ⟨v1.heap.size + 1, 0, none⟩ rfl (.agg (dC (U % L))) rfl _ (store_dig Y2.out) ?_; have J4 := Lib.hid (J3.out.rowp (show w.heap.size + 1 + 1 < v1.heap.size + 1 by omega) (dC (U % L))); have Z1 := Lib.hid (show ArrAt (V3.setRow (v1.heap.size + 1) (dC (U % L))) v1.heap.size (U / L) from (setRow_other _ _ _ _ (by omega)).trans Y1.out); generalize V3.setRow (v1.heap.size + 1) (dC (U % L)) = V4 at J4 Z1 ⊢; have s1 := J4.out.x.sign; have s2 := J4.out.y.sign) | (rw [zero43]; refine wpList_storeV rfl 43 _ _ rfl ⟨v1.heap.size, 0, none⟩ rfl (.agg (dC (U / L))) rfl _ (store_dig X1.out) ?_; have J3 := Lib.hid (J2.out.rowp lv (dC (U / L))); have Y1 := Lib.hid (show ArrAt (((v1.alloc (.cells (dC 0) 43)).alloc (.cells (dC 0) 43)).setRow v1.heap.size (dC (U / L))) v1.heap.size (U / L) from setRow_heap _ _ _ _ _ _ X1.out); have Y2 := Lib.hid (show ArrAt (((v1.alloc (.cells (dC 0) 43)).alloc (.cells (dC 0) 43)).setRow v1.heap.size (dC (U / L))) (v1.heap.size + 1) 0 from (setRow_other _ _ _ _ (by omega)).trans X2.out); generalize ((v1.alloc (.cells (dC 0) 43)).alloc (.cells (dC 0) 43)).setRow v1.heap.size (dC (U / L)) = V3 at J3 Y1 Y2 ⊢) | (go_at_call 91; refine (QU.out p11 p12 _ C11.at C12.at).mono ?_; rintro e v1 ⟨rfl, hq⟩; have J1 := Lib.hid ((I7.later hq).later (below_new v1 (.cells (dC 0) 43))); have J2 := Lib.hid (J1.out.later (below_new _ (.cells (dC 0) 43))); have X1 := Lib.hid (show ArrAt ((v1.alloc (.cells (dC 0) 43)).alloc (.cells (dC 0) 43)) v1.heap.size 0 from old_block _ _ _ _ (at_block _ _ _ rfl)); have X2 := Lib.hid (show ArrAt ((v1.alloc (.cells (dC 0) 43)).alloc (.cells (dC 0) 43)) (v1.heap.size + 1) 0 from at_block _ _ _ (by simp)); have lv := (I7.later hq).sz; clear hq))
        exact bodyPost_ret (ret_num rfl rfl J4.out.r.put) rfl ⟨rfl, below_row J4.out.bl (by omega)⟩
  · rw [if_pos (by rfl)]
    go_simp
    rw [zero43]
    have I2 := I1.later (below_new W1 (.cells (dC 0) 43))
    have A11 : ArrAt (W1.alloc (.cells (dC 0) 43)) W1.heap.size 0 := at_block _ _ _ rfl
    have l11 : w.heap.size + 1 + 1 < W1.heap.size := I1.sz
    generalize W1.alloc (.cells (dC 0) 43) = W2 at I2 A11 ⊢
    obtain ⟨p11, hp⟩ : ∃ p, W1.heap.size = p := ⟨_, rfl⟩
    rw [hp] at A11 l11 ⊢
    clear hp
    refine hK.out _ _ ⟨range_arr I2.x.dig, range_arr I2.y.dig⟩ (fun _ => ?_)
    clear hK K I1
    refine wpAnyH_ready (rs := [4, 12]) (by kernel_rfl) (by simp) ?_
    refine AllReadyH.cons (o := ({ dst := some 23, op := Op.call { callee := Callee.value (Operand.func 90), args := #[Operand.tmp 20, Operand.tmp 22], argTypes := #[43, 3] }, type := 43, pos := "number.go:222", after := #[{ on := 1, ground := Ground.data }, { on := 3, ground := Ground.data }], guard := none } : Oper)) rfl (fun K hK => ?_) (AllReadyH.cons (o := ({ dst := some 9, op := Op.alloc 43, type := 0, pos := "number.go:222", after := #[], guard := none } : Oper)) rfl (fun K hK => ?_) AllReadyH.nil)
    · rw [if_pos (by rfl)]
      go_simp
      go_at_call 90
      refine (S1.out _).mono ?_
      rintro e W3 ⟨rfl, hb⟩
      have I3 := I2.later hb
      replace A11 := A11.below hb
      clear hb
      dsimp only
      refine hK.out _ _ ⟨range_arr I3.x.dig, range_arr I3.y.dig⟩ (fun _ => ?_)
      clear hK K I2
      refine wpAnyH_ready (rs := [10, 12]) (by kernel_rfl) (by simp) ?_
      refine AllReadyH.cons (o := ({ dst := some 29, op := Op.call { callee := Callee.value (Operand.func 90), args := #[Operand.tmp 25, Operand.tmp 28], argTypes := #[43, 3] }, type := 43, pos := "number.go:222", after := #[{ on := 6, ground := Ground.data }, { on := 9, ground := Ground.data }, { on := 4, ground := Ground.chain }], guard := none } : Oper)) rfl (fun K hK => ?_) (AllReadyH.cons (o := ({ dst := some 9, op := Op.alloc 43, type := 0, pos := "number.go:222", after := #[], guard := none } : Oper)) rfl (fun K hK => ?_) AllReadyH.nil)
      · rw [if_pos (by rfl)]
        go_simp
        go_at_call 90
        refine (S2.out _).mono ?_
        rintro e W4 ⟨rfl, hb⟩
        have I4 := I3.later hb
        replace A11 := A11.below hb
        clear hb
        dsimp only
        refine hK.out _ _ ⟨range_arr I4.x.dig, range_arr I4.y.dig⟩ (fun _ => ?_)
        clear hK K I3
        refine wpAnyH_ready (rs := [12]) (by kernel_rfl) (by simp) ?_
        refine AllReadyH.cons (o := ({ dst := some 9, op := Op.alloc 43, type := 0, pos := "number.go:222", after := #[], guard := none } : Oper)) rfl (fun K hK => ?_) AllReadyH.nil
        rw [if_pos (by rfl)]
        go_simp
        rw [zero43]
        have I5 := I4.later (below_new W4 (.cells (dC 0) 43))
        have A12 : ArrAt (W4.alloc (.cells (dC 0) 43)) W4.heap.size 0 := at_block _ _ _ rfl
        have l12 : w.heap.size + 1 + 1 < W4.heap.size := I4.sz
        have ne11 : p11 < W4.heap.size := blk_lt A11
        replace A11 := A11.below (below_new W4 (.cells (dC 0) 43))
        generalize W4.alloc (.cells (dC 0) 43) = W5 at I5 A12 A11 ⊢
        obtain ⟨p12, hp⟩ : ∃ p, W4.heap.size = p := ⟨_, rfl⟩
        rw [hp] at A12 l12 ne11 ⊢
        clear hp
        refine hK.out _ _ ⟨range_arr I5.x.dig, range_arr I5.y.dig⟩ (fun _ => ?_)
        clear hK K I4
        refine wpAnyH_ready (rs := [13]) (by kernel_rfl) (by simp) ?_
        refine AllReadyH.cons (o := ({ dst := none, op := Op.store 43 (Operand.tmp 8) (Operand.tmp 23), type := 0, pos := "number.go:222", after := #[{ on := 11, ground := Ground.data }, { on := 4, ground := Ground.data }, { on := 10, ground := Ground.chain }, { on := 0, ground := Ground.phase }, { on := 1, ground := Ground.phase }, { on := 2, ground := Ground.phase }, { on := 3, ground := Ground.phase }, { on := 4, ground := Ground.phase }, { on := 5, ground := Ground.textOnly Departure.lateStores }, { on := 6, ground := Ground.textOnly Departure.lateStores }, { on := 7, ground := Ground.textOnly Departure.lateStores }, { on := 8, ground := Ground.textOnly Departure.lateStores }, { on := 9, ground := Ground.textOnly Departure.lateStoresUnsure }, { on := 10, ground := Ground.phase }, { on := 11, ground := Ground.phase }, { on := 12, ground := Ground.phase }], guard := none } : Oper)) rfl (fun K hK => ?_) AllReadyH.nil
        rw [if_pos (by rfl)]
        refine wp_store_row _ _ _ rfl p11 _ rfl rfl 43 _ A11 (by rw [size43, dC_size]) (by rw [dC_size, dC_size]) (dC_one _) ?_
        try simp only [Act.put]
        have I6 := I5.rowp l11 (dC U)
        have B11 : ArrAt (W5.setRow p11 (dC U)) p11 U := setRow_heap _ _ _ _ _ _ A11
        have B12 : ArrAt (W5.setRow p11 (dC U)) p12 0 := (setRow_other _ _ _ _ (by omega)).trans A12
        generalize W5.setRow p11 (dC U) = W6 at I6 B11 B12 ⊢
        refine hK.out _ _ ⟨range_arr I6.x.dig, range_arr I6.y.dig⟩ (fun _ => ?_)
        clear hK K I5
        refine wpAnyH_ready (rs := [14]) (by kernel_rfl) (by simp) ?_
        refine AllReadyH.cons (o := ({ dst := none, op := Op.store 43 (Operand.tmp 9) (Operand.tmp 29), type := 0, pos := "number.go:222", after := #[{ on := 12, ground := Ground.data }, { on := 10, ground := Ground.data }, { on := 13, ground := Ground.chain }, { on := 0, ground := Ground.phase }, { on := 1, ground := Ground.phase }, { on := 2, ground := Ground.phase }, { on := 3, ground := Ground.phase }, { on := 4, ground := Ground.phase }, { on := 5, ground := Ground.phase }, { on := 6, ground := Ground.phase }, { on := 7, ground := Ground.phase }, { on := 8, ground := Ground.phase }, { on := 9, ground := Ground.phase }, { on := 10, ground := Ground.phase }, { on := 11, ground := Ground.phase }, { on := 12, ground := Ground.phase }, { on := 13, ground := Ground.phase }], guard := none } : Oper)) rfl (fun K hK => ?_) AllReadyH.nil
        rw [if_pos (by rfl)]
        refine wp_store_row _ _ _ rfl p12 _ rfl rfl 43 _ B12 (by rw [size43, dC_size]) (by rw [dC_size, dC_size]) (dC_one _) ?_
        try simp only [Act.put]
        have I7 := I6.rowp l12 (dC L)
        have C12 : ArrAt (W6.setRow p12 (dC L)) p12 L := setRow_heap _ _ _ _ _ _ B12
        have C11 : ArrAt (W6.setRow p12 (dC L)) p11 U := (setRow_other _ _ _ _ (by omega)).trans B11
        generalize W6.setRow p12 (dC L) = W7 at I7 C11 C12 ⊢
        refine hK.out _ _ ⟨range_arr I7.x.dig, range_arr I7.y.dig⟩ (fun _ => ?_)
        clear hK K I6
        refine wpAnyH_done (by kernel_rfl) ?_ _
        go_wp2_with (first | refine wpList_storeV rfl 45 _ _ rfl ⟨w.heap.size + 1 + 1, 0, none⟩ rfl (.agg (nC (U / L) z (!b == c))) rfl _ (store_num J4.out.r) ?_ | refine wpList_build45 rfl _ _ _ rfl (U / L) z (!b == c) rfl rfl rfl ?_ | refine wpList_loadV rfl 43 _ rfl ⟨v1.heap.size, 0, none⟩ rfl _ (load_dig Z1.out.at) ?_ | (refine wpList_storeV rfl 43 _ _ rfl ⟨v1.heap.size + 1, 0, none⟩ rfl (.agg (dC (U % L))) rfl _ (store_dig Y2.out) ?_; have J4 := Lib.hid (J3.out.rowp (show w.heap.size + 1 + 1 < v1.heap.size + 1 by omega) (dC (U % L))); have Z1 := Lib.hid (show ArrAt (V3.setRow (v1.heap.size + 1) (dC (U % L))) v1.heap.size (U / L) from (setRow_other _ _ _ _ (by omega)).trans Y1.out); generalize V3.setRow (v1.heap.size + 1) (dC (U % L)) = V4 at J4 Z1 ⊢; have s1 := J4.out.x.sign; have s2 := J4.out.y.sign) | (rw [zero43]; refine wpList_storeV rfl 43 _ _ rfl ⟨v1.heap.size, 0, none⟩ rfl (.agg (dC (U / L))) rfl _ (store_dig X1.out) ?_; have J3 := Lib.hid (J2.out.rowp lv (dC (U / L))); have Y1 := Lib.hid (show ArrAt (((v1.alloc (.cells (dC 0) 43)).alloc (.cells (dC 0) 43)).setRow v1.heap.size (dC (U / L))) v1.heap.size (U / L) from setRow_heap _ _ _ _ _ _ X1.out); have Y2 := Lib.hid (show ArrAt (((v1.alloc (.cells (dC 0) 43)).alloc (.cells (dC 0) 43)).setRow v1.heap.size (dC (U / L))) (v1.heap.size + 1) 0 from (setRow_other _ _ _ _ (by omega)).trans X2.out); generalize ((v1.alloc (.cells (dC 0) 43)).alloc (.cells (dC 0) 43)).setRow v1.heap.size (dC (U / L)) = V3 at J3 Y1 Y2 ⊢) | (go_at_call 91; refine (QU.out p11 p12 _ C11.at C12.at).mono ?_; rintro e v1 ⟨rfl, hq⟩; have J1 := Lib.hid ((I7.later hq).later (below_new v1 (.cells (dC 0) 43))); have J2 := Lib.hid (J1.out.later (below_new _ (.cells (dC 0) 43))); have X1 := Lib.hid (show ArrAt ((v1.alloc (.cells (dC 0) 43)).alloc (.cells (dC 0) 43)) v1.heap.size 0 from old_block _ _ _ _ (at_block _ _ _ rfl)); have X2 := Lib.hid (show ArrAt ((v1.alloc (.cells (dC 0) 43)).alloc (.cells (dC 0) 43)) (v1.heap.size + 1) 0 from at_block _ _ _ (by simp)); have lv := (I7.later hq).sz; clear hq))
        exact bodyPost_ret (ret_num rfl rfl J4.out.r.put) rfl ⟨rfl, below_row J4.out.bl (by omega)⟩
      · rw [if_pos (by rfl)]
        go_simp
        rw [zero43]
        have I4 := I3.later (below_new W3 (.cells (dC 0) 43))
        have A12 : ArrAt (W3.alloc (.cells (dC 0) 43)) W3.heap.size 0 := at_block _ _ _ rfl
        have l12 : w.heap.size + 1 + 1 < W3.heap.size := I3.sz
        have ne11 : p11 < W3.heap.size := blk_lt A11
        replace A11 := A11.below (below_new W3 (.cells (dC 0) 43))
        generalize W3.alloc (.cells (dC 0) 43) = W4 at I4 A12 A11 ⊢
        obtain ⟨p12, hp⟩ : ∃ p, W3.heap.size = p := ⟨_, rfl⟩
        rw [hp] at A12 l12 ne11 ⊢
        clear hp
        refine hK.out _ _ ⟨range_arr I4.x.dig, range_arr I4.y.dig⟩ (fun _ => ?_)
        clear hK K I3
        refine wpAnyH_ready (rs := [10]) (by kernel_rfl) (by simp) ?_
        refine AllReadyH.cons (o := ({ dst := some 29, op := Op.call { callee := Callee.value (Operand.func 90), args := #[Operand.tmp 25, Operand.tmp 28], argTypes := #[43, 3] }, type := 43, pos := "number.go:222", after := #[{ on := 6, ground := Ground.data }, { on := 9, ground := Ground.data }, { on := 4, ground := Ground.chain }], guard := none } : Oper)) rfl (fun K hK => ?_) AllReadyH.nil
        rw [if_pos (by rfl)]
        go_simp
        go_at_call 90
        refine (S2.out _).mono ?_
        rintro e W5 ⟨rfl, hb⟩
        have I5 := I4.later hb
        replace A11 := A11.below hb
        replace A12 := A12.below hb
        clear hb
        dsimp only
        refine hK.out _ _ ⟨range_arr I5.x.dig, range_arr I5.y.dig⟩ (fun _ => ?_)
        clear hK K I4
        refine wpAnyH_ready (rs := [13]) (by kernel_rfl) (by simp) ?_
        refine AllReadyH.cons (o := ({ dst := none, op := Op.store 43 (Operand.tmp 8) (Operand.tmp 23), type := 0, pos := "number.go:222", after := #[{ on := 11, ground := Ground.data }, { on := 4, ground := Ground.data }, { on := 10, ground := Ground.chain }, { on := 0, ground := Ground.phase }, { on := 1, ground := Ground.phase }, { on := 2, ground := Ground.phase }, { on := 3, ground := Ground.phase }, { on := 4, ground := Ground.phase }, { on := 5, ground := Ground.textOnly Departure.lateStores }, { on := 6, ground := Ground.textOnly Departure.lateStores }, { on := 7, ground := Ground.textOnly Departure.lateStores }, { on := 8, ground := Ground.textOnly Departure.lateStores }, { on := 9, ground := Ground.textOnly Departure.lateStoresUnsure }, { on := 10, ground := Ground.phase }, { on := 11, ground := Ground.phase }, { on := 12, ground := Ground.phase }], guard := none } : Oper)) rfl (fun K hK => ?_) AllReadyH.nil
        rw [if_pos (by rfl)]
        refine wp_store_row _ _ _ rfl p11 _ rfl rfl 43 _ A11 (by rw [size43, dC_size]) (by rw [dC_size, dC_size]) (dC_one _) ?_
        try simp only [Act.put]
        have I6 := I5.rowp l11 (dC U)
        have B11 : ArrAt (W5.setRow p11 (dC U)) p11 U := setRow_heap _ _ _ _ _ _ A11
        have B12 : ArrAt (W5.setRow p11 (dC U)) p12 0 := (setRow_other _ _ _ _ (by omega)).trans A12
        generalize W5.setRow p11 (dC U) = W6 at I6 B11 B12 ⊢
        refine hK.out _ _ ⟨range_arr I6.x.dig, range_arr I6.y.dig⟩ (fun _ => ?_)
        clear hK K I5
        refine wpAnyH_ready (rs := [14]) (by kernel_rfl) (by simp) ?_
        refine AllReadyH.cons (o := ({ dst := none, op := Op.store 43 (Operand.tmp 9) (Operand.tmp 29), type := 0, pos := "number.go:222", after := #[{ on := 12, ground := Ground.data }, { on := 10, ground := Ground.data }, { on := 13, ground := Ground.chain }, { on := 0, ground := Ground.phase }, { on := 1, ground := Ground.phase }, { on := 2, ground := Ground.phase }, { on := 3, ground := Ground.phase }, { on := 4, ground := Ground.phase }, { on := 5, ground := Ground.phase }, { on := 6, ground := Ground.phase }, { on := 7, ground := Ground.phase }, { on := 8, ground := Ground.phase }, { on := 9, ground := Ground.phase }, { on := 10, ground := Ground.phase }, { on := 11, ground := Ground.phase }, { on := 12, ground := Ground.phase }, { on := 13, ground := Ground.phase }], guard := none } : Oper)) rfl (fun K hK => ?_) AllReadyH.nil
        rw [if_pos (by rfl)]
        refine wp_store_row _ _ _ rfl p12 _ rfl rfl 43 _ B12 (by rw [size43, dC_size]) (by rw [dC_size, dC_size]) (dC_one _) ?_
        try simp only [Act.put]
        have I7 := I6.rowp l12 (dC L)
        have C12 : ArrAt (W6.setRow p12 (dC L)) p12 L := setRow_heap _ _ _ _ _ _ B12
        have C11 : ArrAt (W6.setRow p12 (dC L)) p11 U := (setRow_other _ _ _ _ (by omega)).trans B11
        generalize W6.setRow p12 (dC L) = W7 at I7 C11 C12 ⊢
        refine hK.out _ _ ⟨range_arr I7.x.dig, range_arr I7.y.dig⟩ (fun _ => ?_)
        clear hK K I6
        refine wpAnyH_done (by kernel_rfl) ?_ _
        go_wp2_with (first | refine wpList_storeV rfl 45 _ _ rfl ⟨w.heap.size + 1 + 1, 0, none⟩ rfl (.agg (nC (U / L) z (!b == c))) rfl _ (store_num J4.out.r) ?_ | refine wpList_build45 rfl _ _ _ rfl (U / L) z (!b == c) rfl rfl rfl ?_ | refine wpList_loadV rfl 43 _ rfl ⟨v1.heap.size, 0, none⟩ rfl _ (load_dig Z1.out.at) ?_ | (refine wpList_storeV rfl 43 _ _ rfl ⟨v1.heap.size + 1, 0, none⟩ rfl (.agg (dC (U % L))) rfl _ (store_dig Y2.out) ?_; have J4 := Lib.hid (J3.out.rowp (show w.heap.size + 1 + 1 < v1.heap.size + 1 by omega) (dC (U % L))); have Z1 := Lib.hid (show ArrAt (V3.setRow (v1.heap.size + 1) (dC (U % L))) v1.heap.size (U / L) from (setRow_other _ _ _ _ (by omega)).trans Y1.out); generalize V3.setRow (v1.heap.size + 1) (dC (U % L)) = V4 at J4 Z1 ⊢; have s1 := J4.out.x.sign; have s2 := J4.out.y.sign) | (rw [zero43]; refine wpList_storeV rfl 43 _ _ rfl ⟨v1.heap.size, 0, none⟩ rfl (.agg (dC (U / L))) rfl _ (store_dig X1.out) ?_; have J3 := Lib.hid (J2.out.rowp lv (dC (U / L))); have Y1 := Lib.hid (show ArrAt (((v1.alloc (.cells (dC 0) 43)).alloc (.cells (dC 0) 43)).setRow v1.heap.size (dC (U / L))) v1.heap.size (U / L) from setRow_heap _ _ _ _ _ _ X1.out); have Y2 := Lib.hid (show ArrAt (((v1.alloc (.cells (dC 0) 43)).alloc (.cells (dC 0) 43)).setRow v1.heap.size (dC (U / L))) (v1.heap.size + 1) 0 from (setRow_other _ _ _ _ (by omega)).trans X2.out); generalize ((v1.alloc (.cells (dC 0) 43)).alloc (.cells (dC 0) 43)).setRow v1.heap.size (dC (U / L)) = V3 at J3 Y1 Y2 ⊢) | (go_at_call 91; refine (QU.out p11 p12 _ C11.at C12.at).mono ?_; rintro e v1 ⟨rfl, hq⟩; have J1 := Lib.hid ((I7.later hq).later (below_new v1 (.cells (dC 0) 43))); have J2 := Lib.hid (J1.out.later (below_new _ (.cells (dC 0) 43))); have X1 := Lib.hid (show ArrAt ((v1.alloc (.cells (dC 0) 43)).alloc (.cells (dC 0) 43)) v1.heap.size 0 from old_block _ _ _ _ (at_block _ _ _ rfl)); have X2 := Lib.hid (show ArrAt ((v1.alloc (.cells (dC 0) 43)).alloc (.cells (dC 0) 43)) (v1.heap.size + 1) 0 from at_block _ _ _ (by simp)); have lv := (I7.later hq).sz; clear hq))
        exact bodyPost_ret (ret_num rfl rfl J4.out.r.put) rfl ⟨rfl, below_row J4.out.bl (by omega)⟩
    · rw [if_pos (by rfl)]
      go_simp
      rw [zero43]
      have I3 := I2.later (below_new W2 (.cells (dC 0) 43))
      have A12 : ArrAt (W2.alloc (.cells (dC 0) 43)) W2.heap.size 0 := at_block _ _ _ rfl
      have l12 : w.heap.size + 1 + 1 < W2.heap.size := I2.sz
      have ne11 : p11 < W2.heap.size := blk_lt A11
      replace A11 := A11.below (below_new W2 (.cells (dC 0) 43))
      generalize W2.alloc (.cells (dC 0) 43) = W3 at I3 A12 A11 ⊢
      obtain ⟨p12, hp⟩ : ∃ p, W2.heap.size = p := ⟨_, rfl⟩
      rw [hp] at A12 l12 ne11 ⊢
      clear hp
      refine hK.out _ _ ⟨range_arr I3.x.dig, range_arr I3.y.dig⟩ (fun _ => ?_)
      clear hK K I2
      refine wpAnyH_ready (rs := [4]) (by kernel_rfl) (by simp) ?_
      refine AllReadyH.cons (o := ({ dst := some 23, op := Op.call { callee := Callee.value (Operand.func 90), args := #[Operand.tmp 20, Operand.tmp 22], argTypes := #[43, 3] }, type := 43, pos := "number.go:222", after := #[{ on := 1, ground := Ground.data }, { on := 3, ground := Ground.data }], guard := none } : Oper)) rfl (fun K hK => ?_) AllReadyH.nil
      rw [if_pos (by rfl)]
      go_simp
      go_at_call 90
      refine (S1.out _).mono ?_
      rintro e W4 ⟨rfl, hb⟩
      have I4 := I3.later hb
      replace A11 := A11.below hb
      replace A12 := A12.below hb
      clear hb
      dsimp only
      refine hK.out _ _ ⟨range_arr I4.x.dig, range_arr I4.y.dig⟩ (fun _ => ?_)
      clear hK K I3
      refine wpAnyH_ready (rs := [10]) (by kernel_rfl) (by simp) ?_
      refine AllReadyH.cons (o := ({ dst := some 29, op := Op.call { callee := Callee.value (Operand.func 90), args := #[Operand.tmp 25, Operand.tmp 28], argTypes := #[43, 3] }, type := 43, pos := "number.go:222", after := #[{ on := 6, ground := Ground.data }, { on := 9, ground := Ground.data }, { on := 4, ground := Ground.chain }], guard := none } : Oper)) rfl (fun K hK => ?_) AllReadyH.nil
      rw [if_pos (by rfl)]
      go_simp
      go_at_call 90
      refine (S2.out _).mono ?_
      rintro e W5 ⟨rfl, hb⟩
      have I5 := I4.later hb
      replace A11 := A11.below hb
      replace A12 := A12.below hb
      clear hb
      dsimp only
      refine hK.out _ _ ⟨range_arr I5.x.dig, range_arr I5.y.dig⟩ (fun _ => ?_)
      clear hK K I4
      refine wpAnyH_ready (rs := [13]) (by kernel_rfl) (by simp) ?_
      refine AllReadyH.cons (o := ({ dst := none, op := Op.store 43 (Operand.tmp 8) (Operand.tmp 23), type := 0, pos := "number.go:222", after := #[{ on := 11, ground := Ground.data }, { on := 4, ground := Ground.data }, { on := 10, ground := Ground.chain }, { on := 0, ground := Ground.phase }, { on := 1, ground := Ground.phase }, { on := 2, ground := Ground.phase }, { on := 3, ground := Ground.phase }, { on := 4, ground := Ground.phase }, { on := 5, ground := Ground.textOnly Departure.lateStores }, { on := 6, ground := Ground.textOnly Departure.lateStores }, { on := 7, ground := Ground.textOnly Departure.lateStores }, { on := 8, ground := Ground.textOnly Departure.lateStores }, { on := 9, ground := Ground.textOnly Departure.lateStoresUnsure }, { on := 10, ground := Ground.phase }, { on := 11, ground := Ground.phase }, { on := 12, ground := Ground.phase }], guard := none } : Oper)) rfl (fun K hK => ?_) AllReadyH.nil
      rw [if_pos (by rfl)]
      refine wp_store_row _ _ _ rfl p11 _ rfl rfl 43 _ A11 (by rw [size43, dC_size]) (by rw [dC_size, dC_size]) (dC_one _) ?_
      try simp only [Act.put]
      have I6 := I5.rowp l11 (dC U)
      have B11 : ArrAt (W5.setRow p11 (dC U)) p11 U := setRow_heap _ _ _ _ _ _ A11
      have B12 : ArrAt (W5.setRow p11 (dC U)) p12 0 := (setRow_other _ _ _ _ (by omega)).trans A12
      generalize W5.setRow p11 (dC U) = W6 at I6 B11 B12 ⊢
      refine hK.out _ _ ⟨range_arr I6.x.dig, range_arr I6.y.dig⟩ (fun _ => ?_)
      clear hK K I5
      refine wpAnyH_ready (rs := [14]) (by kernel_rfl) (by simp) ?_
      refine AllReadyH.cons (o := ({ dst := none, op := Op.store 43 (Operand.tmp 9) (Operand.tmp 29), type := 0, pos := "number.go:222", after := #[{ on := 12, ground := Ground.data }, { on := 10, ground := Ground.data }, { on := 13, ground := Ground.chain }, { on := 0, ground := Ground.phase }, { on := 1, ground := Ground.phase }, { on := 2, ground := Ground.phase }, { on := 3, ground := Ground.phase }, { on := 4, ground := Ground.phase }, { on := 5, ground := Ground.phase }, { on := 6, ground := Ground.phase }, { on := 7, ground := Ground.phase }, { on := 8, ground := Ground.phase }, { on := 9, ground := Ground.phase }, { on := 10, ground := Ground.phase }, { on := 11, ground := Ground.phase }, { on := 12, ground := Ground.phase }, { on := 13, ground := Ground.phase }], guard := none } : Oper)) rfl (fun K hK => ?_) AllReadyH.nil
      rw [if_pos (by rfl)]
      refine wp_store_row _ _ _ rfl p12 _ rfl rfl 43 _ B12 (by rw [size43, dC_size]) (by rw [dC_size, dC_size]) (dC_one _) ?_
      try simp only [Act.put]
      have I7 := I6.rowp l12 (dC L)
      have C12 : ArrAt (W6.setRow p12 (dC L)) p12 L := setRow_heap _ _ _ _ _ _ B12
      have C11 : ArrAt (W6.setRow p12 (dC L)) p11 U := (setRow_other _ _ _ _ (by omega)).trans B11
      generalize W6.setRow p12 (dC L) = W7 at I7 C11 C12 ⊢
      refine hK.out _ _ ⟨range_arr I7.x.dig, range_arr I7.y.dig⟩ (fun _ => ?_)
      clear hK K I6
      refine wpAnyH_done (by kernel_rfl) ?_ _
      go_wp2_with (first | refine wpList_storeV rfl 45 _ _ rfl ⟨w.heap.size + 1 + 1, 0, none⟩ rfl (.agg (nC (U / L) z (!b == c))) rfl _ (store_num J4.out.r) ?_ | refine wpList_build45 rfl _ _ _ rfl (U / L) z (!b == c) rfl rfl rfl ?_ | refine wpList_loadV rfl 43 _ rfl ⟨v1.heap.size, 0, none⟩ rfl _ (load_dig Z1.out.at) ?_ | (refine wpList_storeV rfl 43 _ _ rfl ⟨v1.heap.size + 1, 0, none⟩ rfl (.agg (dC (U % L))) rfl _ (store_dig Y2.out) ?_; have J4 := Lib.hid (J3.out.rowp (show w.heap.size + 1 + 1 < v1.heap.size + 1 by omega) (dC (U % L))); have Z1 := Lib.hid (show ArrAt (V3.setRow (v1.heap.size + 1) (dC (U % L))) v1.heap.size (U / L) from (setRow_other _ _ _ _ (by omega)).trans Y1.out); generalize V3.setRow (v1.heap.size + 1) (dC (U % L)) = V4 at J4 Z1 ⊢; have s1 := J4.out.x.sign; have s2 := J4.out.y.sign) | (rw [zero43]; refine wpList_storeV rfl 43 _ _ rfl ⟨v1.heap.size, 0, none⟩ rfl (.agg (dC (U / L))) rfl _ (store_dig X1.out) ?_; have J3 := Lib.hid (J2.out.rowp lv (dC (U / L))); have Y1 := Lib.hid (show ArrAt (((v1.alloc (.cells (dC 0) 43)).alloc (.cells (dC 0) 43)).setRow v1.heap.size (dC (U / L))) v1.heap.size (U / L) from setRow_heap _ _ _ _ _ _ X1.out); have Y2 := Lib.hid (show ArrAt (((v1.alloc (.cells (dC 0) 43)).alloc (.cells (dC 0) 43)).setRow v1.heap.size (dC (U / L))) (v1.heap.size + 1) 0 from (setRow_other _ _ _ _ (by omega)).trans X2.out); generalize ((v1.alloc (.cells (dC 0) 43)).alloc (.cells (dC 0) 43)).setRow v1.heap.size (dC (U / L)) = V3 at J3 Y1 Y2 ⊢) | (go_at_call 91; refine (QU.out p11 p12 _ C11.at C12.at).mono ?_; rintro e v1 ⟨rfl, hq⟩; have J1 := Lib.hid ((I7.later hq).later (below_new v1 (.cells (dC 0) 43))); have J2 := Lib.hid (J1.out.later (below_new _ (.cells (dC 0) 43))); have X1 := Lib.hid (show ArrAt ((v1.alloc (.cells (dC 0) 43)).alloc (.cells (dC 0) 43)) v1.heap.size 0 from old_block _ _ _ _ (at_block _ _ _ rfl)); have X2 := Lib.hid (show ArrAt ((v1.alloc (.cells (dC 0) 43)).alloc (.cells (dC 0) 43)) (v1.heap.size + 1) 0 from at_block _ _ _ (by simp)); have lv := (I7.later hq).sz; clear hq))
      exact bodyPost_ret (ret_num rfl rfl J4.out.r.put) rfl ⟨rfl, below_row J4.out.bl (by omega)⟩
  · rw [if_pos (by rfl)]
    go_simp
    rw [zero43]
    have I2 := I1.later (below_new W1 (.cells (dC 0) 43))
    have A12 : ArrAt (W1.alloc (.cells (dC 0) 43)) W1.heap.size 0 := at_block _ _ _ rfl
    have l12 : w.heap.size + 1 + 1 < W1.heap.size := I1.sz
    generalize W1.alloc (.cells (dC 0) 43) = W2 at I2 A12 ⊢
    obtain ⟨p12, hp⟩ : ∃ p, W1.heap.size = p := ⟨_, rfl⟩
    rw [hp] at A12 l12 ⊢
    clear hp
    refine hK.out _ _ ⟨range_arr I2.x.dig, range_arr I2.y.dig⟩ (fun _ => ?_)
    clear hK K I1
    refine wpAnyH_ready (rs := [4, 11]) (by kernel_rfl) (by simp) ?_
    refine AllReadyH.cons (o := ({ dst := some 23, op := Op.call { callee := Callee.value (Operand.func 90), args := #[Operand.tmp 20, Operand.tmp 22], argTypes := #[43, 3] }, type := 43, pos := "number.go:222", after := #[{ on := 1, ground := Ground.data }, { on := 3, ground := Ground.data }], guard := none } : Oper)) rfl (fun K hK => ?_) (AllReadyH.cons (o := ({ dst := some 8, op := Op.alloc 43, type := 0, pos := "number.go:222", after := #[], guard := none } : Oper)) rfl (fun K hK => ?_) AllReadyH.nil)
    · rw [if_pos (by rfl)]
      go_simp
      go_at_call 90
      refine (S1.out _).mono ?_
      rintro e W3 ⟨rfl, hb⟩
      have I3 := I2.later hb
      replace A12 := A12.below hb
      clear hb
      dsimp only
      refine hK.out _ _ ⟨range_arr I3.x.dig, range_arr I3.y.dig⟩ (fun _ => ?_)
      clear hK K I2
      refine wpAnyH_ready (rs := [10, 11]) (by kernel_rfl) (by simp) ?_
      refine AllReadyH.cons (o := ({ dst := some 29, op := Op.call { callee := Callee.value (Operand.func 90), args := #[Operand.tmp 25, Operand.tmp 28], argTypes := #[43, 3] }, type := 43, pos := "number.go:222", after := #[{ on := 6, ground := Ground.data }, { on := 9, ground := Ground.data }, { on := 4, ground := Ground.chain }], guard := none } : Oper)) rfl (fun K hK => ?_) (AllReadyH.cons (o := ({ dst := some 8, op := Op.alloc 43, type := 0, pos := "number.go:222", after := #[], guard := none } : Oper)) rfl (fun K hK => ?_) AllReadyH.nil)
      · rw [if_pos (by rfl)]
        go_simp
        go_at_call 90
        refine (S2.out _).mono ?_
        rintro e W4 ⟨rfl, hb⟩
        have I4 := I3.later hb
        replace A12 := A12.below hb
        clear hb
        dsimp only
        refine hK.out _ _ ⟨range_arr I4.x.dig, range_arr I4.y.dig⟩ (fun _ => ?_)
        clear hK K I3
        refine wpAnyH_ready (rs := [11]) (by kernel_rfl) (by simp) ?_
        refine AllReadyH.cons (o := ({ dst := some 8, op := Op.alloc 43, type := 0, pos := "number.go:222", after := #[], guard := none } : Oper)) rfl (fun K hK => ?_) AllReadyH.nil
        rw [if_pos (by rfl)]
        go_simp
        rw [zero43]
        have I5 := I4.later (below_new W4 (.cells (dC 0) 43))
        have A11 : ArrAt (W4.alloc (.cells (dC 0) 43)) W4.heap.size 0 := at_block _ _ _ rfl
        have l11 : w.heap.size + 1 + 1 < W4.heap.size := I4.sz
        have ne12 : p12 < W4.heap.size := blk_lt A12
        replace A12 := A12.below (below_new W4 (.cells (dC 0) 43))
        generalize W4.alloc (.cells (dC 0) 43) = W5 at I5 A11 A12 ⊢
        obtain ⟨p11, hp⟩ : ∃ p, W4.heap.size = p := ⟨_, rfl⟩
        rw [hp] at A11 l11 ne12 ⊢
        clear hp
        refine hK.out _ _ ⟨range_arr I5.x.dig, range_arr I5.y.dig⟩ (fun _ => ?_)
        clear hK K I4
        refine wpAnyH_ready (rs := [13]) (by kernel_rfl) (by simp) ?_
        refine AllReadyH.cons (o := ({ dst := none, op := Op.store 43 (Operand.tmp 8) (Operand.tmp 23), type := 0, pos := "number.go:222", after := #[{ on := 11, ground := Ground.data }, { on := 4, ground := Ground.data }, { on := 10, ground := Ground.chain }, { on := 0, ground := Ground.phase }, { on := 1, ground := Ground.phase }, { on := 2, ground := Ground.phase }, { on := 3, ground := Ground.phase }, { on := 4, ground := Ground.phase }, { on := 5, ground := Ground.textOnly Departure.lateStores }, { on := 6, ground := Ground.textOnly Departure.lateStores }, { on := 7, ground := Ground.textOnly Departure.lateStores }, { on := 8, ground := Ground.textOnly Departure.lateStores }, { on := 9, ground := Ground.textOnly Departure.lateStoresUnsure }, { on := 10, ground := Ground.phase }, { on := 11, ground := Ground.phase }, { on := 12, ground := Ground.phase }], guard := none } : Oper)) rfl (fun K hK => ?_) AllReadyH.nil
        rw [if_pos (by rfl)]
        refine wp_store_row _ _ _ rfl p11 _ rfl rfl 43 _ A11 (by rw [size43, dC_size]) (by rw [dC_size, dC_size]) (dC_one _) ?_
        try simp only [Act.put]
        have I6 := I5.rowp l11 (dC U)
        have B11 : ArrAt (W5.setRow p11 (dC U)) p11 U := setRow_heap _ _ _ _ _ _ A11
        have B12 : ArrAt (W5.setRow p11 (dC U)) p12 0 := (setRow_other _ _ _ _ (by omega)).trans A12
        generalize W5.setRow p11 (dC U) = W6 at I6 B11 B12 ⊢
        refine hK.out _ _ ⟨range_arr I6.x.dig, range_arr I6.y.dig⟩ (fun _ => ?_)
        clear hK K I5
        refine wpAnyH_ready (rs := [14]) (by kernel_rfl) (by simp) ?_
        refine AllReadyH.cons (o := ({ dst := none, op := Op.store 43 (Operand.tmp 9) (Operand.tmp 29), type := 0, pos := "number.go:222", after := #[{ on := 12, ground := Ground.data }, { on := 10, ground := Ground.data }, { on := 13, ground := Ground.chain }, { on := 0, ground := Ground.phase }, { on := 1, ground := Ground.phase }, { on := 2, ground := Ground.phase }, { on := 3, ground := Ground.phase }, { on := 4, ground := Ground.phase }, { on := 5, ground := Ground.phase }, { on := 6, ground := Ground.phase }, { on := 7, ground := Ground.phase }, { on := 8, ground := Ground.phase }, { on := 9, ground := Ground.phase }, { on := 10, ground := Ground.phase }, { on := 11, ground := Ground.phase }, { on := 12, ground := Ground.phase }, { on := 13, ground := Ground.phase }], guard := none } : Oper)) rfl (fun K hK => ?_) AllReadyH.nil
        rw [if_pos (by rfl)]
        refine wp_store_row _ _ _ rfl p12 _ rfl rfl 43 _ B12 (by rw [size43, dC_size]) (by rw [dC_size, dC_size]) (dC_one _) ?_
        try simp only [Act.put]
        have I7 := I6.rowp l12 (dC L)
        have C12 : ArrAt (W6.setRow p12 (dC L)) p12 L := setRow_heap _ _ _ _ _ _ B12
        have C11 : ArrAt (W6.setRow p12 (dC L)) p11 U := (setRow_other _ _ _ _ (by omega)).trans B11
        generalize W6.setRow p12 (dC L) = W7 at I7 C11 C12 ⊢
        refine hK.out _ _ ⟨range_arr I7.x.dig, range_arr I7.y.dig⟩ (fun _ => ?_)
        clear hK K I6
        refine wpAnyH_done (by kernel_rfl) ?_ _
        go_wp2_with (first | refine wpList_storeV rfl 45 _ _ rfl ⟨w.heap.size + 1 + 1, 0, none⟩ rfl (.agg (nC (U / L) z (!b == c))) rfl _ (store_num J4.out.r) ?_ | refine wpList_build45 rfl _ _ _ rfl (U / L) z (!b == c) rfl rfl rfl ?_ | refine wpList_loadV rfl 43 _ rfl ⟨v1.heap.size, 0, none⟩ rfl _ (load_dig Z1.out.at) ?_ | (refine wpList_storeV rfl 43 _ _ rfl ⟨v1.heap.size + 1, 0, none⟩ rfl (.agg (dC (U % L))) rfl _ (store_dig Y2.out) ?_; have J4 := Lib.hid (J3.out.rowp (show w.heap.size + 1 + 1 < v1.heap.size + 1 by omega) (dC (U % L))); have Z1 := Lib.hid (show ArrAt (V3.setRow (v1.heap.size + 1) (dC (U % L))) v1.heap.size (U / L) from (setRow_other _ _ _ _ (by omega)).trans Y1.out); generalize V3.setRow (v1.heap.size + 1) (dC (U % L)) = V4 at J4 Z1 ⊢; have s1 := J4.out.x.sign; have s2 := J4.out.y.sign) | (rw [zero43]; refine wpList_storeV rfl 43 _ _ rfl ⟨v1.heap.size, 0, none⟩ rfl (.agg (dC (U / L))) rfl _ (store_dig X1.out) ?_; have J3 := Lib.hid (J2.out.rowp lv (dC (U / L))); have Y1 := Lib.hid (show ArrAt (((v1.alloc (.cells (dC 0) 43)).alloc (.cells (dC 0) 43)).setRow v1.heap.size (dC (U / L))) v1.heap.size (U / L) from setRow_heap _ _ _ _ _ _ X1.out); have Y2 := Lib.hid (show ArrAt (((v1.alloc (.cells (dC 0) 43)).alloc (.cells (dC 0) 43)).setRow v1.heap.size (dC (U / L))) (v1.heap.size + 1) 0 from (setRow_other _ _ _ _ (by omega)).trans X2.out); generalize ((v1.alloc (.cells (dC 0) 43)).alloc (.cells (dC 0) 43)).setRow v1.heap.size (dC (U / L)) = V3 at J3 Y1 Y2 ⊢) | (go_at_call 91; refine (QU.out p11 p12 _ C11.at C12.at).mono ?_; rintro e v1 ⟨rfl, hq⟩; have J1 := Lib.hid ((I7.later hq).later (below_new v1 (.cells (dC 0) 43))); have J2 := Lib.hid (J1.out.later (below_new _ (.cells (dC 0) 43))); have X1 := Lib.hid (show ArrAt ((v1.alloc (.cells (dC 0) 43)).alloc (.cells (dC 0) 43)) v1.heap.size 0 from old_block _ _ _ _ (at_block _ _ _ rfl)); have X2 := Lib.hid (show ArrAt ((v1.alloc (.cells (dC 0) 43)).alloc (.cells (dC 0) 43)) (v1.heap.size + 1) 0 from at_block _ _ _ (by simp)); have lv := (I7.later hq).sz; clear hq))
        exact bodyPost_ret (ret_num rfl rfl J4.out.r.put) rfl ⟨rfl, below_row J4.out.bl (by omega)⟩
      · rw [if_pos (by rfl)]
        go_simp
        rw [zero43]
        have I4 := I3.later (below_new W3 (.cells (dC 0) 43))
        have A11 : ArrAt (W3.alloc (.cells (dC 0) 43)) W3.heap.size 0 := at_block _ _ _ rfl
        have l11 : w.heap.size + 1 + 1 < W3.heap.size := I3.sz
        have ne12 : p12 < W3.heap.size := blk_lt A12
        replace A12 := A12.below (below_new W3 (.cells (dC 0) 43))
        generalize W3.alloc (.cells (dC 0) 43) = W4 at I4 A11 A12 ⊢
        obtain ⟨p11, hp⟩ : ∃ p, W3.heap.size = p := ⟨_, rfl⟩
        rw [hp] at A11 l11 ne12 ⊢
        clear hp
        refine hK.out _ _ ⟨range_arr I4.x.dig, range_arr I4.y.dig⟩ (fun _ => ?_)
        clear hK K I3
        refine wpAnyH_ready (rs := [10]) (by kernel_rfl) (by simp) ?_
        refine AllReadyH.cons (o := ({ dst := some 29, op := Op.call { callee := Callee.value (Operand.func 90), args := #[Operand.tmp 25, Operand.tmp 28], argTypes := #[43, 3] }, type := 43, pos := "number.go:222", after := #[{ on := 6, ground := Ground.data }, { on := 9, ground := Ground.data }, { on := 4, ground := Ground.chain }], guard := none } : Oper)) rfl (fun K hK => ?_) AllReadyH.nil
        rw [if_pos (by rfl)]
        go_simp
        go_at_call 90
        refine (S2.out _).mono ?_
        rintro e W5 ⟨rfl, hb⟩
        have I5 := I4.later hb
        replace A11 := A11.below hb
        replace A12 := A12.below hb
        clear hb
        dsimp only
        refine hK.out _ _ ⟨range_arr I5.x.dig, range_arr I5.y.dig⟩ (fun _ => ?_)
        clear hK K I4
        refine wpAnyH_ready (rs := [13]) (by kernel_rfl) (by simp) ?_
        refine AllReadyH.cons (o := ({ dst := none, op := Op.store 43 (Operand.tmp 8) (Operand.tmp 23), type := 0, pos := "number.go:222", after := #[{ on := 11, ground := Ground.data }, { on := 4, ground := Ground.data }, { on := 10, ground := Ground.chain }, { on := 0, ground := Ground.phase }, { on := 1, ground := Ground.phase }, { on := 2, ground := Ground.phase }, { on := 3, ground := Ground.phase }, { on := 4, ground := Ground.phase }, { on := 5, ground := Ground.textOnly Departure.lateStores }, { on := 6, ground := Ground.textOnly Departure.lateStores }, { on := 7, ground := Ground.textOnly Departure.lateStores }, { on := 8, ground := Ground.textOnly Departure.lateStores }, { on := 9, ground := Ground.textOnly Departure.lateStoresUnsure }, { on := 10, ground := Ground.phase }, { on := 11, ground := Ground.phase }, { on := 12, ground := Ground.phase }], guard := none } : Oper)) rfl (fun K hK => ?_) AllReadyH.nil
        rw [if_pos (by rfl)]
        refine wp_store_row _ _ _ rfl p11 _ rfl rfl 43 _ A11 (by rw [size43, dC_size]) (by rw [dC_size, dC_size]) (dC_one _) ?_
        try simp only [Act.put]
        have I6 := I5.rowp l11 (dC U)
        have B11 : ArrAt (W5.setRow p11 (dC U)) p11 U := setRow_heap _ _ _ _ _ _ A11
        have B12 : ArrAt (W5.setRow p11 (dC U)) p12 0 := (setRow_other _ _ _ _ (by omega)).trans A12
        generalize W5.setRow p11 (dC U) = W6 at I6 B11 B12 ⊢
        refine hK.out _ _ ⟨range_arr I6.x.dig, range_arr I6.y.dig⟩ (fun _ => ?_)
        clear hK K I5
        refine wpAnyH_ready (rs := [14]) (by kernel_rfl) (by simp) ?_
        refine AllReadyH.cons (o := ({ dst := none, op := Op.store 43 (Operand.tmp 9) (Operand.tmp 29), type := 0, pos := "number.go:222", after := #[{ on := 12, ground := Ground.data }, { on := 10, ground := Ground.data }, { on := 13, ground := Ground.chain }, { on := 0, ground := Ground.phase }, { on := 1, ground := Ground.phase }, { on := 2, ground := Ground.phase }, { on := 3, ground := Ground.phase }, { on := 4, ground := Ground.phase }, { on := 5, ground := Ground.phase }, { on := 6, ground := Ground.phase }, { on := 7, ground := Ground.phase }, { on := 8, ground := Ground.phase }, { on := 9, ground := Ground.phase }, { on := 10, ground := Ground.phase }, { on := 11, ground := Ground.phase }, { on := 12, ground := Ground.phase }, { on := 13, ground := Ground.phase }], guard := none } : Oper)) rfl (fun K hK => ?_) AllReadyH.nil
        rw [if_pos (by rfl)]
        refine wp_store_row _ _ _ rfl p12 _ rfl rfl 43 _ B12 (by rw [size43, dC_size]) (by rw [dC_size, dC_size]) (dC_one _) ?_
        try simp only [Act.put]
        have I7 := I6.rowp l12 (dC L)
        have C12 : ArrAt (W6.setRow p12 (dC L)) p12 L := setRow_heap _ _ _ _ _ _ B12
        have C11 : ArrAt (W6.setRow p12 (dC L)) p11 U := (setRow_other _ _ _ _ (by omega)).trans B11
        generalize W6.setRow p12 (dC L) = W7 at I7 C11 C12 ⊢
        refine hK.out _ _ ⟨range_arr I7.x.dig, range_arr I7.y.dig⟩ (fun _ => ?_)
        clear hK K I6
        refine wpAnyH_done (by kernel_rfl) ?_ _
        go_wp2_with (first | refine wpList_storeV rfl 45 _ _ rfl ⟨w.heap.size + 1 + 1, 0, none⟩ rfl (.agg (nC (U / L) z (!b == c))) rfl _ (store_num J4.out.r) ?_ | refine wpList_build45 rfl _ _ _ rfl (U / L) z (!b == c) rfl rfl rfl ?_ | refine wpList_loadV rfl 43 _ rfl ⟨v1.heap.size, 0, none⟩ rfl _ (load_dig Z1.out.at) ?_ | (refine wpList_storeV rfl 43 _ _ rfl ⟨v1.heap.size + 1, 0, none⟩ rfl (.agg (dC (U % L))) rfl _ (store_dig Y2.out) ?_; have J4 := Lib.hid (J3.out.rowp (show w.heap.size + 1 + 1 < v1.heap.size + 1 by omega) (dC (U % L))); have Z1 := Lib.hid (show ArrAt (V3.setRow (v1.heap.size + 1) (dC (U % L))) v1.heap.size (U / L) from (setRow_other _ _ _ _ (by omega)).trans Y1.out); generalize V3.setRow (v1.heap.size + 1) (dC (U % L)) = V4 at J4 Z1 ⊢; have s1 := J4.out.x.sign; have s2 := J4.out.y.sign) | (rw [zero43]; refine wpList_storeV rfl 43 _ _ rfl ⟨v1.heap.size, 0, none⟩ rfl (.agg (dC (U / L))) rfl _ (store_dig X1.out) ?_; have J3 := Lib.hid (J2.out.rowp lv (dC (U / L))); have Y1 := Lib.hid (show ArrAt (((v1.alloc (.cells (dC 0) 43)).alloc (.cells (dC 0) 43)).setRow v1.heap.size (dC (U / L))) v1.heap.size (U / L) from setRow_heap _ _ _ _ _ _ X1.out); have Y2 := Lib.hid (show ArrAt (((v1.alloc (.cells (dC 0) 43)).alloc (.cells (dC 0) 43)).setRow v1.heap.size (dC (U / L))) (v1.heap.size + 1) 0 from (setRow_other _ _ _ _ (by omega)).trans X2.out); generalize ((v1.alloc (.cells (dC 0) 43)).alloc (.cells (dC 0) 43)).setRow v1.heap.size (dC (U / L)) = V3 at J3 Y1 Y2 ⊢) | (go_at_call 91; refine (QU.out p11 p12 _ C11.at C12.at).mono ?_; rintro e v1 ⟨rfl, hq⟩; have J1 := Lib.hid ((I7.later hq).later (below_new v1 (.cells (dC 0) 43))); have J2 := Lib.hid (J1.out.later (below_new _ (.cells (dC 0) 43))); have X1 := Lib.hid (show ArrAt ((v1.alloc (.cells (dC 0) 43)).alloc (.cells (dC 0) 43)) v1.heap.size 0 from old_block _ _ _ _ (at_block _ _ _ rfl)); have X2 := Lib.hid (show ArrAt ((v1.alloc (.cells (dC 0) 43)).alloc (.cells (dC 0) 43)) (v1.heap.size + 1) 0 from at_block _ _ _ (by simp)); have lv := (I7.later hq).sz; clear hq))
        exact bodyPost_ret (ret_num rfl rfl J4.out.r.put) rfl ⟨rfl, below_row J4.out.bl (by omega)⟩
    · rw [if_pos (by rfl)]
      go_simp
      rw [zero43]
      have I3 := I2.later (below_new W2 (.cells (dC 0) 43))
      have A11 : ArrAt (W2.alloc (.cells (dC 0) 43)) W2.heap.size 0 := at_block _ _ _ rfl
      have l11 : w.heap.size + 1 + 1 < W2.heap.size := I2.sz
      have ne12 : p12 < W2.heap.size := blk_lt A12
      replace A12 := A12.below (below_new W2 (.cells (dC 0) 43))
      generalize W2.alloc (.cells (dC 0) 43) = W3 at I3 A11 A12 ⊢
      obtain ⟨p11, hp⟩ : ∃ p, W2.heap.size = p := ⟨_, rfl⟩
      rw [hp] at A11 l11 ne12 ⊢
      clear hp
      refine hK.out _ _ ⟨range_arr I3.x.dig, range_arr I3.y.dig⟩ (fun _ => ?_)
      clear hK K I2
      refine wpAnyH_ready (rs := [4]) (by kernel_rfl) (by simp) ?_
      refine AllReadyH.cons (o := ({ dst := some 23, op := Op.call { callee := Callee.value (Operand.func 90), args := #[Operand.tmp 20, Operand.tmp 22], argTypes := #[43, 3] }, type := 43, pos := "number.go:222", after := #[{ on := 1, ground := Ground.data }, { on := 3, ground := Ground.data }], guard := none } : Oper)) rfl (fun K hK => ?_) AllReadyH.nil
      rw [if_pos (by rfl)]
      go_simp
      go_at_call 90
      refine (S1.out _).mono ?_
      rintro e W4 ⟨rfl, hb⟩
      have I4 := I3.later hb
      replace A11 := A11.below hb
      replace A12 := A12.below hb
      clear hb
      dsimp only
      refine hK.out _ _ ⟨range_arr I4.x.dig, range_arr I4.y.dig⟩ (fun _ => ?_)
      clear hK K I3
      refine wpAnyH_ready (rs := [10]) (by kernel_rfl) (by simp) ?_
      refine AllReadyH.cons (o := ({ dst := some 29, op := Op.call { callee := Callee.value (Operand.func 90), args := #[Operand.tmp 25, Operand.tmp 28], argTypes := #[43, 3] }, type := 43, pos := "number.go:222", after := #[{ on := 6, ground := Ground.data }, { on := 9, ground := Ground.data }, { on := 4, ground := Ground.chain }], guard := none } : Oper)) rfl (fun K hK => ?_) AllReadyH.nil
      rw [if_pos (by rfl)]
      go_simp
      go_at_call 90
      refine (S2.out _).mono ?_
      rintro e W5 ⟨rfl, hb⟩
      have I5 := I4.later hb
      replace A11 := A11.below hb
      replace A12 := A12.below hb
      clear hb
      dsimp only
      refine hK.out _ _ ⟨range_arr I5.x.dig, range_arr I5.y.dig⟩ (fun _ => ?_)
      clear hK K I4
      refine wpAnyH_ready (rs := [13]) (by kernel_rfl) (by simp) ?_
      refine AllReadyH.cons (o := ({ dst := none, op := Op.store 43 (Operand.tmp 8) (Operand.tmp 23), type := 0, pos := "number.go:222", after := #[{ on := 11, ground := Ground.data }, { on := 4, ground := Ground.data }, { on := 10, ground := Ground.chain }, { on := 0, ground := Ground.phase }, { on := 1, ground := Ground.phase }, { on := 2, ground := Ground.phase }, { on := 3, ground := Ground.phase }, { on := 4, ground := Ground.phase }, { on := 5, ground := Ground.textOnly Departure.lateStores }, { on := 6, ground := Ground.textOnly Departure.lateStores }, { on := 7, ground := Ground.textOnly Departure.lateStores }, { on := 8, ground := Ground.textOnly Departure.lateStores }, { on := 9, ground := Ground.textOnly Departure.lateStoresUnsure }, { on := 10, ground := Ground.phase }, { on := 11, ground := Ground.phase }, { on := 12, ground := Ground.phase }], guard := none } : Oper)) rfl (fun K hK => ?_) AllReadyH.nil
      rw [if_pos (by rfl)]
      refine wp_store_row _ _ _ rfl p11 _ rfl rfl 43 _ A11 (by rw [size43, dC_size]) (by rw [dC_size, dC_size]) (dC_one _) ?_
      try simp only [Act.put]
      have I6 := I5.rowp l11 (dC U)
      have B11 : ArrAt (W5.setRow p11 (dC U)) p11 U := setRow_heap _ _ _ _ _ _ A11
      have B12 : ArrAt (W5.setRow p11 (dC U)) p12 0 := (setRow_other _ _ _ _ (by omega)).trans A12
      generalize W5.setRow p11 (dC U) = W6 at I6 B11 B12 ⊢
      refine hK.out _ _ ⟨range_arr I6.x.dig, range_arr I6.y.dig⟩ (fun _ => ?_)
      clear hK K I5
      refine wpAnyH_ready (rs := [14]) (by kernel_rfl) (by simp) ?_
      refine AllReadyH.cons (o := ({ dst := none, op := Op.store 43 (Operand.tmp 9) (Operand.tmp 29), type := 0, pos := "number.go:222", after := #[{ on := 12, ground := Ground.data }, { on := 10, ground := Ground.data }, { on := 13, ground := Ground.chain }, { on := 0, ground := Ground.phase }, { on := 1, ground := Ground.phase }, { on := 2, ground := Ground.phase }, { on := 3, ground := Ground.phase }, { on := 4, ground := Ground.phase }, { on := 5, ground := Ground.phase }, { on := 6, ground := Ground.phase }, { on := 7, ground := Ground.phase }, { on := 8, ground := Ground.phase }, { on := 9, ground := Ground.phase }, { on := 10, ground := Ground.phase }, { on := 11, ground := Ground.phase }, { on := 12, ground := Ground.phase }, { on := 13, ground := Ground.phase }], guard := none } : Oper)) rfl (fun K hK => ?_) AllReadyH.nil
      rw [if_pos (by rfl)]
      refine wp_store_row _ _ _ rfl p12 _ rfl rfl 43 _ B12 (by rw [size43, dC_size]) (by rw [dC_size, dC_size]) (dC_one _) ?_
      try simp only [Act.put]
      have I7 := I6.rowp l12 (dC L)
      have C12 : ArrAt (W6.setRow p12 (dC L)) p12 L := setRow_heap _ _ _ _ _ _ B12
      have C11 : ArrAt (W6.setRow p12 (dC L)) p11 U := (setRow_other _ _ _ _ (by omega)).trans B11
      generalize W6.setRow p12 (dC L) = W7 at I7 C11 C12 ⊢
      refine hK.out _ _ ⟨range_arr I7.x.dig, range_arr I7.y.dig⟩ (fun _ => ?_)
      clear hK K I6
      refine wpAnyH_done (by kernel_rfl) ?_ _
      go_wp2_with (first | refine wpList_storeV rfl 45 _ _ rfl ⟨w.heap.size + 1 + 1, 0, none⟩ rfl (.agg (nC (U / L) z (!b == c))) rfl _ (store_num J4.out.r) ?_ | refine wpList_build45 rfl _ _ _ rfl (U / L) z (!b == c) rfl rfl rfl ?_ | refine wpList_loadV rfl 43 _ rfl ⟨v1.heap.size, 0, none⟩ rfl _ (load_dig Z1.out.at) ?_ | (refine wpList_storeV rfl 43 _ _ rfl ⟨v1.heap.size + 1, 0, none⟩ rfl (.agg (dC (U % L))) rfl _ (store_dig Y2.out) ?_; have J4 := Lib.hid (J3.out.rowp (show w.heap.size + 1 + 1 < v1.heap.size + 1 by omega) (dC (U % L))); have Z1 := Lib.hid (show ArrAt (V3.setRow (v1.heap.size + 1) (dC (U % L))) v1.heap.size (U / L) from (setRow_other _ _ _ _ (by omega)).trans Y1.out); generalize V3.setRow (v1.heap.size + 1) (dC (U % L)) = V4 at J4 Z1 ⊢; have s1 := J4.out.x.sign; have s2 := J4.out.y.sign) | (rw [zero43]; refine wpList_storeV rfl 43 _ _ rfl ⟨v1.heap.size, 0, none⟩ rfl (.agg (dC (U / L))) rfl _ (store_dig X1.out) ?_; have J3 := Lib.hid (J2.out.rowp lv (dC (U / L))); have Y1 := Lib.hid (show ArrAt (((v1.alloc (.cells (dC 0) 43)).alloc (.cells (dC 0) 43)).setRow v1.heap.size (dC (U / L))) v1.heap.size (U / L) from setRow_heap _ _ _ _ _ _ X1.out); have Y2 := Lib.hid (show ArrAt (((v1.alloc (.cells (dC 0) 43)).alloc (.cells (dC 0) 43)).setRow v1.heap.size (dC (U / L))) (v1.heap.size + 1) 0 from (setRow_other _ _ _ _ (by omega)).trans X2.out); generalize ((v1.alloc (.cells (dC 0) 43)).alloc (.cells (dC 0) 43)).setRow v1.heap.size (dC (U / L)) = V3 at J3 Y1 Y2 ⊢) | (go_at_call 91; refine (QU.out p11 p12 _ C11.at C12.at).mono ?_; rintro e v1 ⟨rfl, hq⟩; have J1 := Lib.hid ((I7.later hq).later (below_new v1 (.cells (dC 0) 43))); have J2 := Lib.hid (J1.out.later (below_new _ (.cells (dC 0) 43))); have X1 := Lib.hid (show ArrAt ((v1.alloc (.cells (dC 0) 43)).alloc (.cells (dC 0) 43)) v1.heap.size 0 from old_block _ _ _ _ (at_block _ _ _ rfl)); have X2 := Lib.hid (show ArrAt ((v1.alloc (.cells (dC 0) 43)).alloc (.cells (dC 0) 43)) (v1.heap.size + 1) 0 from at_block _ _ _ (by simp)); have lv := (I7.later hq).sz; clear hq))
      exact bodyPost_ret (ret_num rfl rfl J4.out.r.put) rfl ⟨rfl, below_row J4.out.bl (by omega)⟩

end Go.Proofs.YticbjhogdfpdkaaDoor
