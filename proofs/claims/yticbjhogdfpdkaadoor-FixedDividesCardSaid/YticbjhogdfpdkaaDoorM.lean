/- ofText. -/
import Derived.Test.YticbjhogdfpdkaaDoorL
namespace Go.Proofs.YticbjhogdfpdkaaDoor
set_option maxRecDepth 8000
open Go.RowKit Go.Shelf

def txD (n k : Nat) : ByteArray := ⟨(decT n k).toArray⟩
theorem txD_size (n k : Nat) : (txD n k).size = k := by
  show (decT n k).toArray.size = k
  rw [List.size_toArray, decT_len]
theorem decT_at (n : Nat) : ∀ k j, j < k → (decT n k)[j]? = some (ch (dig n (k - 1 - j)))
  | 0, _, h => by omega
  | k + 1, 0, _ => by rw [decT]; rfl
  | k + 1, j + 1, h => by
    rw [decT, List.getElem?_cons_succ, decT_at n k j (by omega)]
    congr 3
    omega
theorem txD_at (n k : Nat) {j : Nat} (h : j < k) (h2 : j < (txD n k).size) : (txD n k)[j] = ch (dig n (k - 1 - j)) := by
  have := decT_at n k j h
  rw [List.getElem?_eq_some_iff] at this
  obtain ⟨_, e⟩ := this
  exact e

/-- Between two rounds. -/
structure OtI (w : World) (n k : Nat) (W : World) : Prop where
  r : ArrAt W w.heap.size 0
  o : ArrAt W (w.heap.size + 1) (n % 10 ^ k)
  bl : Below w.heap.size w W
theorem OtI.next {w : World} {n k : Nat} {W : World} (h : OtI w n k W) : OtI w n (k + 1) (W.setCell ⟨w.heap.size + 1, k, none⟩ (.int .u8 (dig n k))) :=
  ⟨h.r.other _ _ (by simp only; omega), h.o.set (dC_next n k), ⟨h.bl.os, h.bl.tape, h.bl.output, by simpa [World.setCell] using h.bl.size, fun j hj => (heap_setCell_other _ _ _ _ (by simp only; omega)).trans (h.bl.block j hj)⟩⟩
theorem OtI.fin {w : World} {n k : Nat} {W : World} (h : OtI w n k W) (s : Nat) : ArrAt (W.setRow w.heap.size (dC s)) w.heap.size s ∧ Below w.heap.size w (W.setRow w.heap.size (dC s)) :=
  ⟨setRow_heap W _ (dC 0) (dC s) 43 (0, 0) h.r, h.bl.os, h.bl.tape, h.bl.output, by simpa using h.bl.size, fun j hj => (setRow_other W _ j (dC s) (by omega)).trans (h.bl.block j hj)⟩

set_option maxRecDepth 100000 in
set_option maxHeartbeats 8000000 in
theorem ofText_any (n K : Nat) (w : World) (hn : n < 10 ^ K) (hK : K ≤ 128) :
    Calls Tryd.prog 74 #[.string (txD n K)] w fun e w' => e = .returned (.agg (dC n)) ∧ Below w.heap.size w w' := by
  have HN := Lib.hid hn
  have HK := Lib.hid hK
  have HS : Hid (OtI w n 0 ((w.alloc (.cells (dC 0) 43)).alloc (.cells (dC 0) 43))) := Lib.hid (by
    have at_ : ∀ (x : World) (o : Obj) (k : Nat), k = x.heap.size → (x.alloc o).heap[k]? = some o := fun x o k hk => by subst hk; exact World.alloc_heap_new x o
    have old_ : ∀ (x : World) (o : Obj) (k : Nat) (u : Obj), x.heap[k]? = some u → (x.alloc o).heap[k]? = some u := fun x o k u hk => (Below.heap_alloc _ _ _ (blk_lt hk)).trans hk
    refine ⟨old_ _ _ _ _ (at_ _ _ _ rfl), ?_, (((Below.refl _ _).alloc (Nat.le_refl _) _).alloc (by simp) _)⟩
    rw [Nat.pow_zero, Nat.mod_one]
    exact at_ _ _ _ (by simp))
  have hsz := txD_size n K
  obtain ⟨s, hs⟩ : ∃ s, txD n K = s := ⟨_, rfl⟩
  have HA : Hid (∀ j (h2 : j < s.size), j < K → s[j] = ch (dig n (K - 1 - j))) := Lib.hid (by subst hs; intro j h2 h; exact txD_at n K h h2)
  have e9 : (K : Int) ≤ 128 := by omega
  rw [hs] at hsz ⊢
  clear hn hK
  go_enter Tryd.func74, Tryd.ntmps74
  go_wp2_with fail
  rw [zero43]
  go_loopw [7] (fun i wr => ∃ k : Nat, i = .int .i64 k ∧ k ≤ K ∧ OtI w n k wr) (fun i _ => K - (intOf i).toNat)
  case atStart => exact ⟨0, rfl, by omega, HS.out⟩
  case round =>
    obtain ⟨k, rfl, hk, hs2⟩ := hrel
    have HS := Lib.hid hs2
    by_cases hlt : k < K
    · have o0 := frozen_at hs2.o k
      have ok := (cells_at hs2.o k).trans (dC_at _ (by omega))
      have HKK := Lib.hid hlt
      have e0 : (0 : Int) ≤ (k : Int) := by omega
      have e1 : (k : Int) < (K : Int) := by omega
      have e2 : (k : Int) < 128 := by omega
      clear hs2 hlt
      go_wp2_with fail
      have hk2 := HKK.out
      rw [HA.out _ _ (by omega), show K - 1 - (K - 1 - k) = k by omega, ch_nat (dig_lt _ _)]
      have hd := dig_lt n k
      have ev : (((48 + dig n k : Nat) : Int) - 48) % 256 = (dig n k : Nat) := by omega
      rw [ev]
      exact ⟨⟨k + 1, by go_num, by omega, HS.out.next⟩, by simp [intOf]; omega⟩
    · obtain rfl : k = K := by omega
      have ho := hs2.o
      rw [Nat.mod_eq_of_lt HN.out] at ho
      have LD := Lib.hid (load_dig ho.at)
      have ST := Lib.hid (store_dig (m := n) hs2.r)
      clear hs2 ho hlt
      go_wp2_with (first
        | refine wpList_loadV rfl 43 _ rfl ⟨w.heap.size + 1, 0, none⟩ rfl _ LD.out ?_
        | refine wpList_storeV rfl 43 _ _ rfl ⟨w.heap.size, 0, none⟩ rfl _ rfl _ ST.out ?_)
      obtain ⟨h1, h2⟩ := HS.out.fin n
      exact bodyPost_ret (ret_arr rfl rfl h1) rfl ⟨rfl, h2⟩

end Go.Proofs.YticbjhogdfpdkaaDoor
