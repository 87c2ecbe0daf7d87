/- Whole variables, loaded and stored; zero; shifted. -/
import Derived.Test.YticbjhogdfpdkaaDoorH
import Derived.ChangeKeysEq
namespace Go.Proofs.YticbjhogdfpdkaaDoor
set_option maxRecDepth 8000
open Go.RowKit Go.Shelf

theorem wpList_loadV {P : Program} {w : World} {ops : Array Oper} {rest : List Oper} {o : Oper} {a : Act} {Q : Exit → Act → World → Prop}
    (hg : o.guard = none) (ty : TypeId) (x : Operand) (ho : o.op = .load ty x) (ad : Addr) (hx : a.eval x = .pointer (some ad)) (v : Value) (hl : (loadVar ty ad).run P w = .ok v w)
    (h : wpList P ops Q rest (a.put o.dst v) w) : wpList P ops Q (o :: rest) a w := by
  refine wpList_plain hg fun K hK => ?_
  unfold Oper.wp execOp
  simp only [ho, hx, Instr.loadAt, Instr.sureAddr, Sem.run_bind, Sem.run_pure, Result.andThen_ok, hl]
  exact hK _ _ h
theorem wpList_storeV {P : Program} {w : World} {ops : Array Oper} {rest : List Oper} {o : Oper} {a : Act} {Q : Exit → Act → World → Prop}
    (hg : o.guard = none) (ty : TypeId) (x y : Operand) (ho : o.op = .store ty x y) (ad : Addr) (hx : a.eval x = .pointer (some ad)) (v : Value) (hy : a.eval y = v) (w' : World) (hl : (storeVar ty ad v).run P w = .ok () w')
    (h : wpList P ops Q rest (a.put o.dst undef) w') : wpList P ops Q (o :: rest) a w := by
  refine wpList_plain hg fun K hK => ?_
  unfold Oper.wp execOp
  simp only [ho, hx, hy, Instr.storeAt, Instr.sureAddr, Sem.run_bind, Sem.run_pure, Result.andThen_ok, hl]
  exact hK _ _ h

theorem under5 : Tryd.prog.underlying 5 = some (.int .u8) := by kernel_rfl
theorem cells5 : Tryd.prog.cellsOf 5 = 1 := by kernel_rfl
theorem part_dig (n i : Nat) (h : i < 128) (w : World) : (part 5 (dC n) (i * 1)).run Tryd.prog w = .ok (.int .u8 (dig n i)) w := by
  have ha : (isAgg 5).run Tryd.prog w = .ok false w := run_isAgg_plain under5 rfl w
  simp only [part, Sem.run_bind, ha, Result.andThen_ok, Nat.mul_one, dC_at n h]
  rfl
theorem items_dig (n m : Nat) (w : World) : ∀ L : List Nat, (∀ i ∈ L, i < 128) → (Op.eqItems 9999 5 1 (dC n) (dC m) L).run Tryd.prog w = .ok (L.all fun i => decide (dig n i = dig m i)) w
  | [], _ => rfl
  | i :: r, h => by
    have ih := items_dig n m w r fun j hj => h j (List.mem_cons_of_mem _ hj)
    have he : (Op.equalIn 9999 5 (.int .u8 (dig n i)) (.int .u8 (dig m i))).run Tryd.prog w = .ok (decide (dig n i = dig m i)) w := by
      rw [show (9999 : Nat) = 9998 + 1 from rfl, run_equalIn_int w 9998 5 .u8 .u8 _ _ under5]
      congr 1
      rw [Bool.eq_iff_iff]
      simp
      omega
    simp only [Op.eqItems, Sem.run_bind, part_dig n i (h i (List.mem_cons_self ..)), part_dig m i (h i (List.mem_cons_self ..)), Result.andThen_ok, he, List.all_cons]
    cases hd : decide (dig n i = dig m i) with
    | false => rfl
    | true => simpa using ih
theorem eq_dig {n m : Nat} (hn : n < 10 ^ 128) (hm : m < 10 ^ 128) (w : World) : (Op.equalIn 10000 43 (.agg (dC n)) (.agg (dC m))).run Tryd.prog w = .ok (decide (n = m)) w := by
  obtain ⟨i0, hi, _⟩ : ∃ i, Tryd.prog.info? 5 = some i ∧ True := by
    cases hq : Tryd.prog.info? 5 with
    | none => have : (Tryd.prog.info? 5).isSome = true := by kernel_rfl
              rw [hq] at this; cases this
    | some i => exact ⟨i, rfl, trivial⟩
  rw [show (10000 : Nat) = 9999 + 1 from rfl, run_equalIn_array w 9999 _ _ under43 hi, cells5, items_dig n m w _ fun i hi => List.mem_range.1 hi]
  congr 1
  rw [Bool.eq_iff_iff]
  simp only [List.all_eq_true, List.mem_range, decide_eq_true_eq]
  constructor
  · intro h
    have := dig_ext (a := n) (b := m) 128 h
    rwa [Nat.mod_eq_of_lt hn, Nat.mod_eq_of_lt hm] at this
  · rintro rfl i _
    rfl

set_option maxRecDepth 100000 in
set_option maxHeartbeats 4000000 in
theorem zero_any (B n : Nat) (w : World) (h : DigAt w B n) (hn : n < 10 ^ 128) :
    Calls Tryd.prog 40 #[.pointer (some ⟨B, 0, none⟩)] w fun e w' => e = .returned (.bool (decide (n = 0))) ∧ w = w' := by
  have LD := Lib.hid (load_dig h)
  have eq0 : ∀ wx : World, (Op.equalIn 10000 43 (.agg (dC n)) (.agg Tryd.zeroCells43)).run Tryd.prog wx = .ok (decide (n = 0)) wx := fun wx => by rw [zero43]; exact eq_dig hn big wx
  clear h hn
  go_enter Tryd.func40, Tryd.ntmps40
  go_wp2_with (refine wpList_loadV rfl 43 _ rfl ⟨B, 0, none⟩ rfl _ LD.out ?_)
  go_ret
  exact ⟨rfl, rfl⟩

/-- Between two rounds of shifted. -/
structure ShI (w : World) (n m k : Nat) (W : World) : Prop where
  a : ArrAt W w.heap.size n
  r : ArrAt W (w.heap.size + 1) 0
  o : ArrAt W (w.heap.size + 1 + 1) (m % 10 ^ k)
  b : Below w.heap.size w W
theorem ShI.skip {w : World} {n m k : Nat} {W : World} (h : ShI w n m k W) (h0 : dig m k = 0) : ShI w n m (k + 1) W :=
  ⟨h.a, h.r, by rw [mod_succ, h0, Nat.mul_zero, Nat.add_zero]; exact h.o, h.b⟩
theorem ShI.next {w : World} {n m k : Nat} {W : World} (h : ShI w n m k W) {x : Nat} (hx : dig m k = x) : ShI w n m (k + 1) (W.setCell ⟨w.heap.size + 1 + 1, k, none⟩ (.int .u8 x)) := by
  subst hx
  exact ⟨h.a.other _ _ (by simp only; omega), h.r.other _ _ (by simp only; omega), h.o.set (dC_next m k), h.b.os, h.b.tape, h.b.output, by simpa [World.setCell] using h.b.size, fun j hj => (heap_setCell_other _ _ _ _ (by simp only; omega)).trans (h.b.block j hj)⟩
theorem ShI.fin {w : World} {n m k : Nat} {W : World} (h : ShI w n m k W) (s : Nat) : ArrAt (W.setRow (w.heap.size + 1) (dC s)) (w.heap.size + 1) s ∧ Below w.heap.size w (W.setRow (w.heap.size + 1) (dC s)) :=
  ⟨setRow_heap W _ (dC 0) (dC s) 43 (0, 0) h.r, h.b.os, h.b.tape, h.b.output, by simpa using h.b.size, fun j hj => (setRow_other W _ j (dC s) (by omega)).trans (h.b.block j hj)⟩

set_option maxRecDepth 100000 in
set_option maxHeartbeats 8000000 in
theorem shifted_any (n : Nat) (p : Int) (w : World) (hn : n < 10 ^ 128) (hp1 : -1000 ≤ p) (hp2 : p ≤ 1000) :
    Calls Tryd.prog 90 #[.agg (dC n), .int .i64 p] w fun e w' => e = .returned (.agg (dC (moved n p))) ∧ Below w.heap.size w w' := by
  have HM := Lib.hid fun i (hi : i < 128) => dig_moved hn p hi
  have HML := Lib.hid (moved_lt hn p)
  have HS : Hid (ShI w n (moved n p) 0 (((w.alloc (.cells (dC n) 43)).alloc (.cells (dC 0) 43)).alloc (.cells (dC 0) 43))) := Lib.hid (by
    have at_ : ∀ (x : World) (o : Obj) (k : Nat), k = x.heap.size → (x.alloc o).heap[k]? = some o := fun x o k hk => by subst hk; exact World.alloc_heap_new x o
    have old_ : ∀ (x : World) (o : Obj) (k : Nat) (u : Obj), x.heap[k]? = some u → (x.alloc o).heap[k]? = some u := fun x o k u hk => (Below.heap_alloc _ _ _ (blk_lt hk)).trans hk
    refine ⟨old_ _ _ _ _ (old_ _ _ _ _ (at_ _ _ _ rfl)), old_ _ _ _ _ (at_ _ _ _ (by simp)), ?_, (((Below.refl _ _).alloc (Nat.le_refl _) _).alloc (by simp) _).alloc (by simp; omega) _⟩
    rw [Nat.pow_zero, Nat.mod_one]
    exact at_ _ _ _ (by simp))
  obtain ⟨m, hm⟩ : ∃ m, moved n p = m := ⟨_, rfl⟩
  rw [hm] at HM HML HS
  clear hn
  rw [hm]
  go_enter Tryd.func90, Tryd.ntmps90
  go_wp2_with fail
  rw [zero43]
  go_loopw [8] (fun i wr => ∃ k : Nat, i = .int .i64 k ∧ k ≤ 128 ∧ ShI w n m k wr) (fun i _ => 128 - (intOf i).toNat)
  case atStart => exact ⟨0, rfl, by omega, HS.out⟩
  case round =>
    obtain ⟨k, rfl, hk, hs⟩ := hrel
    have HS := Lib.hid hs
    have o0 := frozen_at hs.o k
    by_cases hlt : k < 128
    · have ok := (cells_at hs.o k).trans (dC_at _ hlt)
      have HK := Lib.hid hlt
      have e0 : (0 : Int) ≤ (k : Int) := by omega
      have e1 : (k : Int) < 128 := by omega
      have HD := Lib.hid (HM.out k hlt)
      by_cases h1 : 0 ≤ (k : Int) - p
      · by_cases h2 : (k : Int) - p < 128
        · have c0 := (cells_at hs.a ((k : Int) - p).toNat).trans (dC_at _ (by omega))
          have HX : Hid (dig m k = dig n ((k : Int) - p).toNat) := Lib.hid (by rw [HD.out, if_pos ⟨h1, h2⟩])
          clear hs hlt HD
          go_wp2_with fail
          go_roundw
          case rel => exact ⟨k + 1, by go_num, HK.out, HS.out.next HX.out⟩
          case measure => simp [intOf]; have := HK.out; omega
        · have HX : Hid (dig m k = 0) := Lib.hid (by rw [HD.out, if_neg (fun g => h2 g.2)])
          clear hs hlt HD
          go_wp2_with fail
          go_roundw
          case rel => exact ⟨k + 1, by go_num, HK.out, HS.out.skip HX.out⟩
          case measure => simp [intOf]; have := HK.out; omega
      · have HX : Hid (dig m k = 0) := Lib.hid (by rw [HD.out, if_neg (fun g => h1 g.1)])
        clear hs hlt HD
        go_wp2_with fail
        go_roundw
        case rel => exact ⟨k + 1, by go_num, HK.out, HS.out.skip HX.out⟩
        case measure => simp [intOf]; have := HK.out; omega
    · obtain rfl : k = 128 := by omega
      have ho := hs.o
      rw [Nat.mod_eq_of_lt HML.out] at ho
      have LD := Lib.hid (load_dig ho.at)
      have ST := Lib.hid (store_dig (m := m) hs.r)
      clear hs ho o0 hlt
      go_wp2_with (first
        | refine wpList_loadV rfl 43 _ rfl ⟨w.heap.size + 1 + 1, 0, none⟩ rfl _ LD.out ?_
        | refine wpList_storeV rfl 43 _ _ rfl ⟨w.heap.size + 1, 0, none⟩ rfl _ rfl _ ST.out ?_)
      obtain ⟨h1, h2⟩ := HS.out.fin m
      exact bodyPost_ret (ret_arr rfl rfl h1) rfl ⟨rfl, h2⟩

end Go.Proofs.YticbjhogdfpdkaaDoor
