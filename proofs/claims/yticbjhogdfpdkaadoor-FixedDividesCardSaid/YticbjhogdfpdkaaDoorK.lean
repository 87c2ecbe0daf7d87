/- quotient. -/
import Derived.Test.YticbjhogdfpdkaaDoorJ
import Derived.Deep.RegionHeld3
namespace Go.Proofs.YticbjhogdfpdkaaDoor
set_option maxRecDepth 8000
open Go.RowKit Go.Shelf

/-- The quotient so far, t taken at the place i. -/
def quo (n m i t : Nat) : Nat := n / 10 ^ (i + 1) / m * 10 ^ (i + 1) + t * 10 ^ i
/-- What is to be divided at the place i. -/
def rem (n m i : Nat) : Nat := n / 10 ^ (i + 1) % m * 10 + dig n i
theorem quo_split (n m i t : Nat) : quo n m i t = 10 ^ i * (10 * (n / 10 ^ (i + 1) / m) + t) := by
  unfold quo
  rw [Nat.pow_succ, Nat.mul_add]
  congr 1 <;> ac_rfl
theorem dig_quo {n m i t : Nat} (ht : t < 10) (k : Nat) : dig (quo n m i t) k = if k = i then t else dig (quo n m i 0) k := by
  split
  · rename_i h
    subst h
    rw [quo_split]
    unfold dig
    rw [Nat.mul_div_cancel_left _ (pow_pos k)]
    omega
  · rename_i h
    rcases Nat.lt_or_gt_of_ne h with h1 | h1
    · rw [quo_split, quo_split, Nat.mul_comm, Nat.mul_comm (10 ^ i), dig_up, dig_up, if_neg (by omega), if_neg (by omega)]
    · rw [quo_split, quo_split, Nat.mul_comm, Nat.mul_comm (10 ^ i), dig_up, dig_up, if_pos (by omega), if_pos (by omega)]
      obtain ⟨d, hd⟩ : ∃ d, k - i = 1 + d := ⟨k - i - 1, by omega⟩
      rw [hd]
      generalize n / 10 ^ (i + 1) / m = q
      unfold dig
      rw [Nat.pow_add, ← Nat.div_div_eq_div_mul, ← Nat.div_div_eq_div_mul]
      congr 2
      omega
theorem quo_set {n m i t : Nat} (ht : t + 1 < 10) : (dC (quo n m i t)).setIfInBounds i (.int .u8 ((t + 1 : Nat) : Int)) = dC (quo n m i (t + 1)) := by
  have e : dig (quo n m i (t + 1)) i = t + 1 := by rw [dig_quo ht, if_pos rfl]
  have := dC_set (n := quo n m i t) (m := quo n m i (t + 1)) (k := i) fun k _ hne => by
    rw [dig_quo ht, dig_quo (by omega : t < 10), if_neg hne, if_neg hne]
  rw [e] at this
  exact this
theorem quo_at {n m i t : Nat} (ht : t < 10) : dig (quo n m i t) i = t := by rw [dig_quo ht, if_pos rfl]
theorem quo_first (n m i : Nat) : n / 10 ^ (i + 1) / m * 10 ^ (i + 1) = quo n m i 0 := by simp [quo]
theorem quo_last {n m i t : Nat} (hm : 0 < m) (h1 : t * m ≤ rem n m i) (h2 : rem n m i - t * m < m) : quo n m i t = n / 10 ^ i / m * 10 ^ i ∧ rem n m i - t * m = n / 10 ^ i % m := by
  obtain ⟨e1, e2⟩ := quo_step n m i hm
  have ht : rem n m i / m = t := by
    have : rem n m i = (rem n m i - t * m) + m * t := by rw [Nat.mul_comm m t]; omega
    rw [this, Nat.add_mul_div_left _ _ hm, Nat.div_eq_of_lt h2, Nat.zero_add]
  refine ⟨?_, ?_⟩
  · rw [quo_split, e1, Nat.mul_comm]
    congr 2
    exact ht.symm
  · rw [e2]
    have : rem n m i = (rem n m i - t * m) + m * t := by rw [Nat.mul_comm m t]; omega
    show _ = rem n m i % m
    conv => rhs; rw [this]
    rw [Nat.add_mul_mod_self_left, Nat.mod_eq_of_lt h2]
theorem rem_lt {n m i : Nat} (hn : n < 10 ^ 128) : rem n m i < 10 ^ 128 ∧ n / 10 ^ (i + 1) % m * 10 < 10 ^ 128 := by
  have e : n / 10 ^ i = 10 * (n / 10 ^ (i + 1)) + dig n i := by
    unfold dig
    rw [Nat.pow_succ, ← Nat.div_div_eq_div_mul]
    omega
  have h1 := Nat.mod_le (n / 10 ^ (i + 1)) m
  have h2 : n / 10 ^ i ≤ n := Nat.div_le_self _ _
  unfold rem
  omega
theorem count_lt {n m i t : Nat} (hm : 0 < m) (h : t * m ≤ rem n m i) : t < 10 := by
  have := quo_small n m i hm
  have h2 : t ≤ rem n m i / m := (Nat.le_div_iff_mul_le hm).2 h
  unfold rem at h2
  omega
/-- A digit comes down. -/
theorem rem_set {n m i : Nat} (hn : n < 10 ^ 128) : (dC (moved (n / 10 ^ (i + 1) % m) 1)).setIfInBounds 0 (.int .u8 (dig n i)) = dC (rem n m i) := by
  have h10 : moved (n / 10 ^ (i + 1) % m) 1 = n / 10 ^ (i + 1) % m * 10 := by
    unfold moved
    rw [if_pos (by decide), show (1 : Int).toNat = 1 from rfl, Nat.pow_one, Nat.mod_eq_of_lt (rem_lt hn).2]
  have e : dig (rem n m i) 0 = dig n i := by
    have := dig_lt n i
    unfold rem
    rw [show dig (n / 10 ^ (i + 1) % m * 10 + dig n i) 0 = (n / 10 ^ (i + 1) % m * 10 + dig n i) % 10 by unfold dig; rw [Nat.pow_zero, Nat.div_one]]
    omega
  rw [h10, ← e]
  refine dC_set fun k _ hne => ?_
  obtain ⟨d, rfl⟩ : ∃ d, k = 1 + d := ⟨k - 1, by omega⟩
  have := dig_lt n i
  unfold rem
  generalize n / 10 ^ (i + 1) % m = q
  generalize dig n i = x at this ⊢
  unfold dig
  rw [Nat.pow_add, ← Nat.div_div_eq_div_mul, ← Nat.div_div_eq_div_mul]
  congr 2
  omega

structure QuI (w : World) (A B n m s r : Nat) (W : World) : Prop where
  a : DigAt W A n
  b : DigAt W B m
  p : ArrAt W w.heap.size 0
  q : ArrAt W (w.heap.size + 1) 0
  o : ArrAt W (w.heap.size + 1 + 1) s
  r : ArrAt W (w.heap.size + 1 + 1 + 1) r
  bl : Below w.heap.size w W
  lt : A < w.heap.size ∧ B < w.heap.size
theorem QuI.later {w : World} {A B n m s r : Nat} {W W' : World} (h : QuI w A B n m s r W) (hb : Below W.heap.size W W') : QuI w A B n m s r W' :=
  ⟨h.a.below hb, h.b.below hb, (hb.block _ (blk_lt h.p)).trans h.p, (hb.block _ (blk_lt h.q)).trans h.q, (hb.block _ (blk_lt h.o)).trans h.o, (hb.block _ (blk_lt h.r)).trans h.r, h.bl.trans (hb.mono h.bl.size), h.lt⟩
theorem QuI.put {w : World} {A B n m s r : Nat} {W : World} (h : QuI w A B n m s r W) (t : Nat) : QuI w A B n m s t (W.setRow (w.heap.size + 1 + 1 + 1) (dC t)) := by
  have hl := h.lt
  have ho : ∀ k, k ≠ w.heap.size + 1 + 1 + 1 → (W.setRow (w.heap.size + 1 + 1 + 1) (dC t)).heap[k]? = W.heap[k]? := fun k hk => setRow_other W _ k (dC t) hk
  exact ⟨h.a.same (ho _ (by omega)), h.b.same (ho _ (by omega)), (ho _ (by omega)).trans h.p, (ho _ (by omega)).trans h.q, (ho _ (by omega)).trans h.o, setRow_heap W _ (dC r) (dC t) 43 (0, 0) h.r, ⟨h.bl.os, h.bl.tape, h.bl.output, by simpa using h.bl.size, fun j hj => (ho j (by omega)).trans (h.bl.block j hj)⟩, h.lt⟩
theorem QuI.rset {w : World} {A B n m s r r' k : Nat} {x : Value} {W : World} (h : QuI w A B n m s r W) (hs : (dC r).setIfInBounds k x = dC r') : QuI w A B n m s r' (W.setCell ⟨w.heap.size + 1 + 1 + 1, k, none⟩ x) := by
  have hl := h.lt
  exact ⟨h.a.same (heap_setCell_other _ _ _ _ (by simp only; omega)), h.b.same (heap_setCell_other _ _ _ _ (by simp only; omega)), h.p.other _ _ (by simp only; omega), h.q.other _ _ (by simp only; omega), h.o.other _ _ (by simp only; omega), h.r.set hs, ⟨h.bl.os, h.bl.tape, h.bl.output, by simpa [World.setCell] using h.bl.size, fun j hj => (heap_setCell_other _ _ _ _ (by simp only; omega)).trans (h.bl.block j hj)⟩, h.lt⟩
theorem QuI.oset {w : World} {A B n m s s' r k : Nat} {x : Value} {W : World} (h : QuI w A B n m s r W) (hs : (dC s).setIfInBounds k x = dC s') : QuI w A B n m s' r (W.setCell ⟨w.heap.size + 1 + 1, k, none⟩ x) := by
  have hl := h.lt
  exact ⟨h.a.same (heap_setCell_other _ _ _ _ (by simp only; omega)), h.b.same (heap_setCell_other _ _ _ _ (by simp only; omega)), h.p.other _ _ (by simp only; omega), h.q.other _ _ (by simp only; omega), h.o.set hs, h.r.other _ _ (by simp only; omega), ⟨h.bl.os, h.bl.tape, h.bl.output, by simpa [World.setCell] using h.bl.size, fun j hj => (heap_setCell_other _ _ _ _ (by simp only; omega)).trans (h.bl.block j hj)⟩, h.lt⟩

theorem heap_setCells_other (b : Nat) : ∀ (vs : List Value) (o : Nat) (W : World) (k : Nat), k ≠ b → (W.setCells b o vs).heap[k]? = W.heap[k]?
  | [], _, _, _, _ => rfl
  | _ :: r, o, _, k, h => (heap_setCells_other b r (o + 1) _ k h).trans (heap_setCell_other _ _ _ _ h)
theorem below_setCells (b : Nat) : ∀ (vs : List Value) (o : Nat) {K : Nat} {w W : World}, Below K w W → K ≤ b → Below K w (W.setCells b o vs)
  | [], _, _, _, _, h, _ => h
  | _ :: r, o, _, _, _, h, hk => below_setCells b r (o + 1) ⟨h.os, h.tape, h.output, by simpa [World.setCell] using h.size, fun j hj => (heap_setCell_other _ _ _ _ (by simp only; omega)).trans (h.block j hj)⟩ hk
theorem there_arr {W : World} {B n : Nat} (h : ArrAt W B n) : W.there B 0 128 := fun j hj => by
  rw [Nat.zero_add]
  exact ⟨by rw [cells_at h j, dC_at n hj]; rfl, frozen_at h j⟩
theorem range_arr {W : World} {B n : Nat} (h : DigAt W B n) : W.rangeAt B 0 (dL n) := fun j v hv => by
  have hj : j < 128 := by have := (List.getElem?_eq_some_iff.1 hv).1; rw [dL_len] at this; exact this
  rw [Nat.zero_add, h j hj]
  have := dC_at n hj
  simp only [dC, List.getElem?_toArray] at this
  exact this.symm.trans hv
theorem arr_range {W : World} {B n : Nat} (h : W.rangeAt B 0 (dL n)) : DigAt W B n := fun j hj => by
  have := h j _ (by have := dC_at n hj; simpa only [dC, List.getElem?_toArray] using this)
  rwa [Nat.zero_add] at this
theorem ret_two {fn : Func} {p q : Tmp} {W : World} {R S a b : Nat} {tmps : Array Value} (h : fn.results = #[.cell p 43, .cell q 43]) (hp : tmps.getD p undef = .pointer (some ⟨R, 0, none⟩)) (hq : tmps.getD q undef = .pointer (some ⟨S, 0, none⟩)) (ha : DigAt W R a) (hb : DigAt W S b) :
    (results fn tmps).run Tryd.prog W = .ok (.tuple #[.agg (dC a), .agg (dC b)]) W := by
  have hp' : tmps[p]?.getD undef = .pointer (some ⟨R, 0, none⟩) := by simpa using hp
  have hq' : tmps[q]?.getD undef = .pointer (some ⟨S, 0, none⟩) := by simpa using hq
  simp [results, h, hp', hq', asAddr, load_dig ha, load_dig hb, Result.andThen]
theorem dL_one (n : Nat) : ∀ v ∈ dL n, v.oneCell' = true := fun v hv => by
  simp only [dL, List.mem_map] at hv
  obtain ⟨i, _, rfl⟩ := hv
  rfl

end Go.Proofs.YticbjhogdfpdkaaDoor
