/- quotient, walked. -/
import Derived.Test.YticbjhogdfpdkaaDoorK
namespace Go.Proofs.YticbjhogdfpdkaaDoor
set_option maxRecDepth 8000
open Go.RowKit Go.Shelf

set_option maxRecDepth 100000 in
set_option maxHeartbeats 16000000 in
theorem quotient_any (A B n m : Nat) (w : World) (ha : DigAt w A n) (hb : DigAt w B m) (hn : n < 10 ^ 128) (hm : m < 10 ^ 128) (h0 : 0 < m) :
    Calls Tryd.prog 91 #[.pointer (some ⟨A, 0, none⟩), .pointer (some ⟨B, 0, none⟩)] w fun e w' => e = .returned (.tuple #[.agg (dC (n / m)), .agg (dC (n % m))]) ∧ Below w.heap.size w w' := by
  have HS : Hid (QuI w A B n m 0 0 ((((w.alloc (.cells (dC 0) 43)).alloc (.cells (dC 0) 43)).alloc (.cells (dC 0) 43)).alloc (.cells (dC 0) 43))) := Lib.hid (by
    have at_ : ∀ (x : World) (o : Obj) (k : Nat), k = x.heap.size → (x.alloc o).heap[k]? = some o := fun x o k hk => by subst hk; exact World.alloc_heap_new x o
    have old_ : ∀ (x : World) (o : Obj) (k : Nat) (u : Obj), x.heap[k]? = some u → (x.alloc o).heap[k]? = some u := fun x o k u hk => (Below.heap_alloc _ _ _ (blk_lt hk)).trans hk
    have hb2 : Below w.heap.size w ((((w.alloc (.cells (dC 0) 43)).alloc (.cells (dC 0) 43)).alloc (.cells (dC 0) 43)).alloc (.cells (dC 0) 43)) := ((((Below.refl _ _).alloc (Nat.le_refl _) _).alloc (by simp) _).alloc (by simp; omega) _).alloc (by simp; omega) _
    exact ⟨ha.below hb2, hb.below hb2, old_ _ _ _ _ (old_ _ _ _ _ (old_ _ _ _ _ (at_ _ _ _ rfl))), old_ _ _ _ _ (old_ _ _ _ _ (at_ _ _ _ (by simp))), old_ _ _ _ _ (at_ _ _ _ (by simp)), at_ _ _ _ (by simp), hb2, ha.lt, hb.lt⟩)
  have LE := Lib.hid fun wx (hx : DigAt wx A n) => length_any A n wx hx
  have SH := Lib.hid fun wx k => shifted_any (n / 10 ^ (k + 1) % m) 1 wx (Nat.lt_of_le_of_lt (Nat.le_trans (Nat.mod_le _ _) (Nat.div_le_self _ _)) hn) (by decide) (by decide)
  have CM := Lib.hid fun wx x R (h1 : DigAt wx R x) (h2 : DigAt wx B m) (h3 : x < 10 ^ 128) => compare_any R B x m wx h1 h2 h3 hm
  have DF := Lib.hid fun wx x R (h1 : DigAt wx R x) (h2 : DigAt wx B m) (h3 : x < 10 ^ 128) (h4 : m ≤ x) => difference_any R B x m wx h1 h2 h4 h3
  have HD := Lib.hid (digs_le n)
  have HDL := Lib.hid (digs_lt hn)
  have HM0 := Lib.hid h0
  have HRL := Lib.hid fun i => (rem_lt (m := m) (i := i) hn).1
  have HRS := Lib.hid fun i => rem_set (m := m) (i := i) hn
  clear ha hb hn hm h0
  go_enter Tryd.func91, Tryd.ntmps91
  have d1 : (1 : Int) ≤ (digs n : Int) := by have := HD.out; omega
  have d2 : (digs n : Int) ≤ 128 := by have := HD.out; omega
  go_wp2_with (go_at_call 92; rw [zero43]; refine (LE.out _ HS.out.a).mono ?_; rintro e w2 ⟨rfl, rfl⟩)
  go_loopw [8] (fun i wr => ∃ k : Nat, i = .int .i64 ((k : Int) - 1) ∧ k ≤ digs n ∧ QuI w A B n m (n / 10 ^ k / m * 10 ^ k) (n / 10 ^ k % m) wr) (fun i _ => (intOf i + 1).toNat)
  case atStart =>
    refine ⟨digs n, by go_num, Nat.le_refl _, ?_⟩
    rw [Nat.div_eq_of_lt HDL.out, Nat.zero_div, Nat.zero_mul, Nat.zero_mod]
    exact HS.out
  case round =>
    obtain ⟨k, rfl, hk, hs⟩ := hrel
    cases k with
    | zero =>
      rw [Nat.pow_zero, Nat.div_one, Nat.mul_one] at hs
      have HS := Lib.hid hs
      have h1 := range_arr hs.o.at
      have h2 := range_arr hs.r.at
      have h3 := there_arr hs.p
      have h4 := there_arr hs.q
      have hu := under43
      have hz : (Tryd.prog.info? 43).map (·.size) = some (dL (n / m)).length := by rw [size43, dL_len]
      have hz2 : (Tryd.prog.info? 43).map (·.size) = some (dL (n % m)).length := by rw [size43, dL_len]
      have l1 := dL_len (n / m)
      have l2 := dL_len (n % m)
      have n1 := dL_one (n / m)
      have n2 := dL_one (n % m)
      clear hs hk
      go_wp2_with fail
      refine wp_region_held_drew (S := fun w' => w'.rangeAt (w.heap.size + 1 + 1) 0 (dL (n / m)) ∧ w'.rangeAt (w.heap.size + 1 + 1 + 1) 0 (dL (n % m)) ∧ w'.there w.heap.size 0 128 ∧ w'.there (w.heap.size + 1) 0 128) (by kernel_rfl) (by simpa using ⟨h1, h2, h3, h4⟩) (fun hHeld => ?_)
      refine wpAnyH_take (i := 0) (oi := ({ dst := some 34, op := Op.load 43 (Operand.tmp 6), type := 43, pos := "number.go:116", after := #[], guard := none } : Oper)) (v := _) rfl (by kernel_rfl) (by kernel_rfl) (by kernel_rfl) (fun _ _ _ h => h) (yieldsIf_load_mid (by rfl) _ _ rfl _ _ rfl (dL (n / m)) _ (fun _ h => h.1) hu rfl hz) hHeld ?_
      simp only [Act.put, List.setIfInBounds_toArray, List.set_cons_zero, List.set_cons_succ]
      refine wpAnyH_take (i := 1) (oi := ({ dst := some 35, op := Op.load 43 (Operand.tmp 7), type := 43, pos := "number.go:116", after := #[{ on := 2, ground := Ground.gcOnly Departure.lateStores }], guard := none } : Oper)) (v := _) rfl (by kernel_rfl) (by kernel_rfl) (by kernel_rfl) (fun _ _ _ h => h) (yieldsIf_load_mid (by rfl) _ _ rfl _ _ rfl (dL (n % m)) _ (fun _ h => h.2.1) hu rfl hz2) hHeld ?_
      simp only [Act.put, List.setIfInBounds_toArray, List.set_cons_zero, List.set_cons_succ]
      refine wpAnyH_ready (rs := [2]) (by kernel_rfl) (by simp) ?_
      refine AllReadyH.cons (o := ({ dst := none, op := Op.store 43 (Operand.tmp 4) (Operand.tmp 34), type := 0, pos := "number.go:116", after := #[{ on := 0, ground := Ground.data }, { on := 0, ground := Ground.phase }, { on := 1, ground := Ground.textOnly Departure.lateStores }], guard := none } : Oper)) rfl (fun K hK => ?_) AllReadyH.nil
      rw [if_pos (by rfl)]
      refine wp_store_mid _ _ _ rfl w.heap.size 0 (dL (n / m)).toArray rfl rfl ?_ ?_ (all_oneCell_toArray n1) ?_
      · have := hHeld.2.2.1
        simpa [dL_len] using this
      · rw [size43]; simp [dL_len]
      simp only [Act.put]
      have s1 := World.rangeAt_setCells_apart hHeld.1 w.heap.size 0 (dL (n / m)) (.inl (by omega))
      have s2 := World.rangeAt_setCells_apart hHeld.2.1 w.heap.size 0 (dL (n / m)) (.inl (by omega))
      have s3 := World.there_setCells hHeld.2.2.1 w.heap.size 0 (dL (n / m))
      have s4 := World.there_setCells hHeld.2.2.2 w.heap.size 0 (dL (n / m))
      have s5 := World.rangeAt_setCells_same _ w.heap.size 0 (dL (n / m)) (by rw [dL_len]; exact hHeld.2.2.1)
      have s6 := below_setCells w.heap.size (dL (n / m)) 0 (show Below w.heap.size w wr.drew from HS.out.bl.trans ⟨rfl, rfl, rfl, Nat.le_refl _, fun _ _ => rfl⟩) (Nat.le_refl _)
      generalize wr.drew.setCells w.heap.size 0 (dL (n / m)) = W2 at s1 s2 s3 s4 s5 s6 ⊢
      refine hK.out _ _ ⟨s1, s2, s3, s4⟩ (fun _ => ?_)
      refine wpAnyH_ready (rs := [3]) (by kernel_rfl) (by simp) ?_
      refine AllReadyH.cons (o := ({ dst := none, op := Op.store 43 (Operand.tmp 5) (Operand.tmp 35), type := 0, pos := "number.go:116", after := #[{ on := 1, ground := Ground.data }, { on := 2, ground := Ground.chain }, { on := 0, ground := Ground.phase }, { on := 1, ground := Ground.phase }, { on := 2, ground := Ground.phase }], guard := none } : Oper)) rfl (fun K2 hK2 => ?_) AllReadyH.nil
      rw [if_pos (by rfl)]
      refine wp_store_mid _ _ _ rfl (w.heap.size + 1) 0 (dL (n % m)).toArray rfl rfl ?_ ?_ (all_oneCell_toArray n2) ?_
      · simpa [dL_len] using s4
      · rw [size43]; simp [dL_len]
      simp only [Act.put]
      have t1 := World.rangeAt_setCells_apart s1 (w.heap.size + 1) 0 (dL (n % m)) (.inl (by omega))
      have t2 := World.rangeAt_setCells_apart s2 (w.heap.size + 1) 0 (dL (n % m)) (.inl (by omega))
      have t3 := World.there_setCells s3 (w.heap.size + 1) 0 (dL (n % m))
      have t4 := World.there_setCells s4 (w.heap.size + 1) 0 (dL (n % m))
      have t5 := World.rangeAt_setCells_apart s5 (w.heap.size + 1) 0 (dL (n % m)) (.inl (by omega))
      have t6 := World.rangeAt_setCells_same _ (w.heap.size + 1) 0 (dL (n % m)) (by rw [dL_len]; exact s4)
      have t7 := below_setCells (w.heap.size + 1) (dL (n % m)) 0 s6 (by omega)
      generalize W2.setCells (w.heap.size + 1) 0 (dL (n % m)) = W3 at t1 t2 t3 t4 t5 t6 t7 ⊢
      refine hK2.out _ _ ⟨t1, t2, t3, t4⟩ (fun _ => ?_)
      refine wpAnyH_done (by kernel_rfl) ?_ _
      clear hHeld hK hK2 s1 s2 s3 s4 s5 s6 t1 t2 t3 t4 h1 h2 h3 h4 hz hz2 l1 l2 n1 n2
      go_wp2_with fail
      exact bodyPost_ret (ret_two rfl rfl rfl (arr_range t5) (arr_range t6)) rfl ⟨rfl, t7⟩
    | succ i =>
      rw [quo_first] at hs
      have hi : i < 128 := by have := HD.out; omega
      have ez : (((i + 1 : Nat) : Int) - 1) = (i : Int) := by omega
      rw [ez]
      have a0 := hs.a i hi
      have LD := Lib.hid (load_dig hs.r.at)
      have HSk := Lib.hid hs
      have HK := Lib.hid hk
      have e0 : (0 : Int) ≤ (i : Int) := by omega
      have e1 : (i : Int) < 128 := by omega
      have HI := Lib.hid hi
      clear hs hk ez hi
      go_wp2_with (first
        | (go_at_call 90; refine (SH.out _ i).mono ?_; rintro e w3 ⟨rfl, hb3⟩; have HS3 := Lib.hid (HSk.out.later hb3); have ST := Lib.hid (store_dig (m := moved (n / 10 ^ (i + 1) % m) 1) HS3.out.r); have HS4 := Lib.hid (HS3.out.put (moved (n / 10 ^ (i + 1) % m) 1)); have a4 := HS4.out.a i HI.out; have r4 := (cells_at HS4.out.r 0).trans (dC_at _ (by decide)); have rf := frozen_at HS4.out.r 0; clear hb3)
        | refine wpList_loadV rfl 43 _ rfl ⟨w.heap.size + 1 + 1 + 1, 0, none⟩ rfl _ LD.out ?_
        | refine wpList_storeV rfl 43 _ _ rfl ⟨w.heap.size + 1 + 1 + 1, 0, none⟩ rfl _ rfl _ ST.out ?_)
      go_loopw [] (fun wr => ∃ t, t * m ≤ rem n m i ∧ QuI w A B n m (quo n m i t) (rem n m i - t * m) wr) (fun wr => 10 - (intOf ((wr.cell? ⟨w.heap.size + 1 + 1, i, none⟩).getD undef)).toNat)
      case atStart => exact ⟨0, by simp, by rw [Nat.zero_mul, Nat.sub_zero]; exact HS4.out.rset (HRS.out i)⟩
      case round =>
        clear a0 a4 r4 rf
        obtain ⟨t, ht, hs⟩ := hrel
        have ht10 := count_lt HM0.out ht
        have HT := Lib.hid ht
        have HT10 := Lib.hid ht10
        have HSJ := Lib.hid hs
        have HXL : Hid (rem n m i - t * m < 10 ^ 128) := Lib.hid (Nat.lt_of_le_of_lt (Nat.sub_le _ _) (HRL.out i))
        obtain ⟨x, hx⟩ : ∃ x, rem n m i - t * m = x := ⟨_, rfl⟩
        have HX := Lib.hid hx
        rw [hx] at HSJ HXL
        have oi := (cells_at hs.o i).trans (dC_at _ HI.out)
        rw [quo_at ht10] at oi
        have of := frozen_at hs.o i
        have e2 : (0 : Int) ≤ (t : Int) := by omega
        have e3 : (t : Int) ≤ 9 := by omega
        by_cases hle : m ≤ x
        · have HLE := Lib.hid hle
          have hO : (0 : Int) ≤ ord x m := by unfold ord; rw [if_neg (by omega)]; split <;> decide
          have HN : Hid ((t + 1) * m ≤ rem n m i) := Lib.hid (by rw [Nat.add_mul]; omega)
          have ht1 := count_lt HM0.out HN.out
          have e4 : (t : Int) ≤ 8 := by omega
          have HT1 := Lib.hid ht1
          have HY : Hid (x - m = rem n m i - (t + 1) * m) := Lib.hid (by rw [Nat.add_mul]; omega)
          obtain ⟨z, hz⟩ : ∃ z, ord x m = z := ⟨_, rfl⟩
          rw [hz] at hO
          have HZ := Lib.hid hz
          clear hs ht hx hle hz ht10 ht1
          go_wp2_with (first
            | (go_at_call 86; refine (CM.out _ x _ HSJ.out.r.at HSJ.out.b HXL.out).mono ?_; rintro e w5 ⟨rfl, hb5⟩; rw [HZ.out]; have HS5 := Lib.hid (HSJ.out.later hb5); clear hb5)
            | (go_at_call 87; refine (DF.out _ x _ HS5.out.r.at HS5.out.b HXL.out HLE.out).mono ?_; rintro e w6 ⟨rfl, hb6⟩; have HS6 := Lib.hid (HS5.out.later hb6); have ST6 := Lib.hid (store_dig (m := x - m) HS6.out.r); have HS7 := Lib.hid (HS6.out.put (x - m)); have o7 := (cells_at HS7.out.o i).trans (dC_at _ HI.out); rw [quo_at HT10.out] at o7; have of7 := frozen_at HS7.out.o i; clear hb6)
            | refine wpList_storeV rfl 43 _ _ rfl ⟨w.heap.size + 1 + 1 + 1, 0, none⟩ rfl _ rfl _ ST6.out ?_)
          go_roundw
          case rel => exact ⟨t + 1, HN.out, by rw [← HY.out]; exact HS7.out.oset (quo_set HT1.out)⟩
          case measure =>
            have hb := (cells_at (HS7.out.oset (quo_set HT1.out)).o i).trans (dC_at _ HI.out)
            rw [quo_at HT1.out] at hb
            have e : ((t + 1 : Nat) : Int) = (t : Int) + 1 := by omega
            rw [e] at hb
            rw [hb, oi]
            simp [intOf]
            omega
        · have hO : ord x m < 0 := by unfold ord; rw [if_pos (by omega)]; decide
          have HLT : Hid (rem n m i - t * m < m) := Lib.hid (by omega)
          obtain ⟨z, hz⟩ : ∃ z, ord x m = z := ⟨_, rfl⟩
          rw [hz] at hO
          have HZ := Lib.hid hz
          have hO2 : ¬ (0 ≤ z) := by omega
          clear hs ht hx hle hz ht10
          go_wp2_with (go_at_call 86; refine (CM.out _ x _ HSJ.out.r.at HSJ.out.b HXL.out).mono ?_; rintro e w5 ⟨rfl, hb5⟩; rw [HZ.out]; have HS5 := Lib.hid (HSJ.out.later hb5); clear hb5)
          go_roundw
          case rel =>
            obtain ⟨q1, q2⟩ := quo_last HM0.out HT.out HLT.out
            have h5 := HS5.out
            rw [q1, ← HX.out, q2] at h5
            exact ⟨i, rfl, by have := HK.out; omega, h5⟩
          case measure => simp [intOf]

end Go.Proofs.YticbjhogdfpdkaaDoor
