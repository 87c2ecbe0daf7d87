/- product. -/
import Derived.Test.YticbjhogdfpdkaaDoorI
namespace Go.Proofs.YticbjhogdfpdkaaDoor
set_option maxRecDepth 8000
open Go.RowKit Go.Shelf

structure PrI (w : World) (A B n m s : Nat) (W : World) : Prop where
  a : DigAt W A n
  b : DigAt W B m
  r : ArrAt W w.heap.size 0
  o : ArrAt W (w.heap.size + 1) s
  bl : Below w.heap.size w W
  lt : A < w.heap.size ∧ B < w.heap.size
theorem PrI.later {w : World} {A B n m s : Nat} {W W' : World} (h : PrI w A B n m s W) (hb : Below W.heap.size W W') : PrI w A B n m s W' :=
  ⟨h.a.below hb, h.b.below hb, (hb.block _ (blk_lt h.r)).trans h.r, (hb.block _ (blk_lt h.o)).trans h.o, h.bl.trans (hb.mono h.bl.size), h.lt⟩
theorem PrI.next {w : World} {A B n m s s' k : Nat} {x : Value} {W : World} (h : PrI w A B n m s W) (hs : (dC s).setIfInBounds k x = dC s') : PrI w A B n m s' (W.setCell ⟨w.heap.size + 1, k, none⟩ x) := by
  have hl := h.lt
  exact ⟨h.a.same (heap_setCell_other _ _ _ _ (by simp only; omega)), h.b.same (heap_setCell_other _ _ _ _ (by simp only; omega)), h.r.other _ _ (by simp only; omega), h.o.set hs, ⟨h.bl.os, h.bl.tape, h.bl.output, by simpa [World.setCell] using h.bl.size, fun j hj => (heap_setCell_other _ _ _ _ (by simp only; omega)).trans (h.bl.block j hj)⟩, h.lt⟩
theorem PrI.fin {w : World} {A B n m s : Nat} {W : World} (h : PrI w A B n m s W) (t : Nat) : ArrAt (W.setRow w.heap.size (dC t)) w.heap.size t ∧ Below w.heap.size w (W.setRow w.heap.size (dC t)) :=
  ⟨setRow_heap W _ (dC 0) (dC t) 43 (0, 0) h.r, h.bl.os, h.bl.tape, h.bl.output, by simpa using h.bl.size, fun j hj => (setRow_other W _ j (dC t) (by omega)).trans (h.bl.block j hj)⟩

set_option maxRecDepth 100000 in
set_option maxHeartbeats 16000000 in
theorem product_any (A B n m : Nat) (w : World) (ha : DigAt w A n) (hb : DigAt w B m) (hn : n < 10 ^ 128) (hp : n * m < 10 ^ 128) :
    Calls Tryd.prog 88 #[.pointer (some ⟨A, 0, none⟩), .pointer (some ⟨B, 0, none⟩)] w fun e w' => e = .returned (.agg (dC (n * m))) ∧ Below w.heap.size w w' := by
  have HP := Lib.hid hp
  have HS : Hid (PrI w A B n m 0 ((w.alloc (.cells (dC 0) 43)).alloc (.cells (dC 0) 43))) := Lib.hid (by
    have at_ : ∀ (x : World) (o : Obj) (k : Nat), k = x.heap.size → (x.alloc o).heap[k]? = some o := fun x o k hk => by subst hk; exact World.alloc_heap_new x o
    have old_ : ∀ (x : World) (o : Obj) (k : Nat) (u : Obj), x.heap[k]? = some u → (x.alloc o).heap[k]? = some u := fun x o k u hk => (Below.heap_alloc _ _ _ (blk_lt hk)).trans hk
    have hb2 : Below w.heap.size w ((w.alloc (.cells (dC 0) 43)).alloc (.cells (dC 0) 43)) := ((Below.refl _ _).alloc (Nat.le_refl _) _).alloc (by simp) _
    exact ⟨ha.below hb2, hb.below hb2, old_ _ _ _ _ (at_ _ _ _ rfl), at_ _ _ _ (by simp), hb2, ha.lt, hb.lt⟩)
  have LE := Lib.hid fun wx (hx : DigAt wx A n) => length_any A n wx hx
  have HD := Lib.hid (digs_le n)
  have HDL := Lib.hid (digs_lt hn)
  clear ha hb hn hp
  go_enter Tryd.func88, Tryd.ntmps88
  go_wp2_with (go_at_call 92; rw [zero43]; refine (LE.out _ HS.out.a).mono ?_; rintro e w2 ⟨rfl, rfl⟩)
  go_loopw [12] (fun i wr => ∃ k : Nat, i = .int .i64 k ∧ k ≤ digs n ∧ PrI w A B n m ((n % 10 ^ k) * m) wr) (fun i _ => digs n - (intOf i).toNat)
  case atStart => exact ⟨0, rfl, Nat.zero_le _, by rw [Nat.pow_zero, Nat.mod_one, Nat.zero_mul]; exact HS.out⟩
  case round =>
    obtain ⟨k, rfl, hk, hs⟩ := hrel
    by_cases hlt : k < digs n
    · have HSk := Lib.hid hs
      have HK := Lib.hid hlt
      have HK128 : Hid (k < 128) := Lib.hid (by have := HD.out; omega)
      have e0 : (0 : Int) ≤ (k : Int) := by omega
      have e1 : (k : Int) < (digs n : Int) := by omega
      have e2 : (k : Int) < 128 := by have := HD.out; omega
      clear hs hlt
      go_wp2_with fail
      go_loopw [7, 8] (fun c j wr' => ∃ jj : Nat, c = .int .i64 (carP ((n % 10 ^ k) * m) (dig n k) m k jj : Nat) ∧ j = .int .i64 jj ∧ jj ≤ 128 - k ∧ PrI w A B n m (outP ((n % 10 ^ k) * m) (dig n k) m k jj) wr') (fun _ j _ => 128 - (intOf j).toNat)
      case atStart => exact ⟨0, by rw [(row_zero _ _ _ _).2]; rfl, rfl, Nat.zero_le _, by rw [(row_zero _ _ _ _).1]; exact HSk.out⟩
      case round =>
        obtain ⟨jj, rfl, rfl, hjl, hs⟩ := hrel
        have hk128 := HK128.out
        by_cases hj : k + jj < 128
        · have o0 := (cells_at hs.o (k + jj)).trans (dC_at _ hj)
          rw [dig_outP, if_neg (by omega)] at o0
          have of := frozen_at hs.o (k + jj)
          have a0 := hs.a k hk128
          have b0 := hs.b jj (by omega)
          have HSJ := Lib.hid hs
          have HJ := Lib.hid hj
          have f0 : (0 : Int) ≤ (jj : Int) := by omega
          have f1 : (jj : Int) < 128 := by omega
          have f2 : (k : Int) + (jj : Int) < 128 := by omega
          have f3 : (0 : Int) ≤ (k : Int) + (jj : Int) := by omega
          have hrd := row_digit ((n % 10 ^ k) * m) (dig n k) m k jj
          have l1 := dig_lt ((n % 10 ^ k) * m) (k + jj)
          have l2 := dig_lt n k
          have l3 := dig_lt m jj
          have l4 := carP_le (W := (n % 10 ^ k) * m) (x := dig n k) (b := m) (i := k) (j := jj) l2
          have HST := Lib.hid (row_set ((n % 10 ^ k) * m) (dig n k) m k jj)
          have HRD := Lib.hid hrd
          obtain ⟨dw, hdw⟩ : ∃ d, dig ((n % 10 ^ k) * m) (k + jj) = d := ⟨_, rfl⟩
          obtain ⟨x, hx⟩ : ∃ d, dig n k = d := ⟨_, rfl⟩
          obtain ⟨y, hy⟩ : ∃ d, dig m jj = d := ⟨_, rfl⟩
          rw [hdw] at o0 l1 HRD
          rw [hx] at a0 l2 l4 HSJ HST HRD ⊢
          rw [hy] at b0 l3 HRD
          have HX := Lib.hid hx
          obtain ⟨c, hc⟩ : ∃ d, carP ((n % 10 ^ k) * m) x m k jj = d := ⟨_, rfl⟩
          rw [hc] at l4 HRD ⊢
          have lxy : x * y ≤ 81 := Nat.le_trans (Nat.mul_le_mul (by omega : x ≤ 9) (by omega : y ≤ 9)) (by decide)
          have hcast : (x : Int) * (y : Int) = ((x * y : Nat) : Int) := by simp
          have g1 : (0 : Int) ≤ (x : Int) * (y : Int) := by omega
          have g2 : (x : Int) * (y : Int) ≤ 81 := by omega
          clear hs hj hrd hdw hy hc hx hjl hcast lxy
          go_wp2_with fail
          go_quiet (fail)
          go_wp2_with fail
          have v1 : ((dw : Int) + (x : Int) * (y : Int) + (c : Int)) % 10 = (dig (outP ((n % 10 ^ k) * m) x m k (jj + 1)) (k + jj) : Nat) := by rw [HRD.out.1]; simp
          have v2 : ((dw : Int) + (x : Int) * (y : Int) + (c : Int)) / 10 = (carP ((n % 10 ^ k) * m) x m k (jj + 1) : Nat) := by rw [HRD.out.2]; simp
          rw [v1, v2]
          exact ⟨⟨jj + 1, rfl, by go_num, by have := HJ.out; omega, (HSJ.out.later (below_drewN' _ _)).next HST.out⟩, by simp [intOf]; have := HJ.out; omega⟩
        · have hjj : jj = 128 - k := by omega
          have f2 : (k : Int) + (jj : Int) = 128 := by omega
          have f0 : (0 : Int) ≤ (jj : Int) := by omega
          have f1 : (jj : Int) ≤ 128 := by omega
          rw [hjj, row_done (by omega) HP.out] at hs
          have HSJ := Lib.hid hs
          clear hs hj hjl hjj hk128 e1
          go_wp2_with fail
          go_roundw
          case rel => exact ⟨k + 1, by go_num, HK.out, HSJ.out⟩
          case measure => simp [intOf]; have := HK.out; omega
    · obtain rfl : k = digs n := by omega
      rw [Nat.mod_eq_of_lt HDL.out] at hs
      have LD := Lib.hid (load_dig hs.o.at)
      have ST := Lib.hid (store_dig (m := n * m) hs.r)
      have HS := Lib.hid hs
      clear hs
      go_wp2_with (first
        | refine wpList_loadV rfl 43 _ rfl ⟨w.heap.size + 1, 0, none⟩ rfl _ LD.out ?_
        | refine wpList_storeV rfl 43 _ _ rfl ⟨w.heap.size, 0, none⟩ rfl _ rfl _ ST.out ?_)
      obtain ⟨h1, h2⟩ := HS.out.fin (n * m)
      exact bodyPost_ret (ret_arr rfl rfl h1) rfl ⟨rfl, h2⟩

end Go.Proofs.YticbjhogdfpdkaaDoor
