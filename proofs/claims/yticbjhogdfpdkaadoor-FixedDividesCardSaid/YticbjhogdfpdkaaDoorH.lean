/- compare; zero; pointers to digits. -/
import Derived.Test.YticbjhogdfpdkaaDoorG
namespace Go.Proofs.YticbjhogdfpdkaaDoor
set_option maxRecDepth 8000
open Go.RowKit Go.Shelf
attribute [local go_sem] Oper.semAt_some

structure CpI (w : World) (C n m k : Nat) (W : World) : Prop where
  tn : Turns [] w W
  c : Boxed W C 3 (.int .i64 (ordTo n m k))
  n : C = w.heap.size
theorem CpI.turned {w : World} {C n m k : Nat} {W W' : World} {Bs : List Nat} (h : CpI w C n m k W) (ht : Turns Bs W W') (hB : ∀ b ∈ Bs, C + 1 ≤ b) : CpI w C n m k W' := by
  have hn := h.n
  exact ⟨turns_below h.tn ht fun c hc => .inr (by have := hB c hc; omega), boxed_turns h.c ht (fun hm => by have := hB _ hm; omega), h.n⟩
theorem CpI.next {w : World} {C n m k : Nat} {W : World} (h : CpI w C n m k W) {z : Int} (hz : ordTo n m (k + 1) = z) : CpI w C n m (k + 1) (W.setCell ⟨C, 0, none⟩ (.int .i64 z)) ∧ ∀ j, j ≠ C → (W.setCell ⟨C, 0, none⟩ (.int .i64 z)).heap[j]? = W.heap[j]? := by
  subst hz
  have hn := h.n
  have keep : ∀ j, j ≠ C → (W.setCell ⟨C, 0, none⟩ (.int .i64 (ordTo n m (k + 1)))).heap[j]? = W.heap[j]? := fun j h1 => heap_setCell_other _ _ _ _ h1
  exact ⟨⟨⟨h.tn.os, h.tn.tape, h.tn.output, by simpa [World.setCell] using h.tn.size, fun j hj hne => (keep j (by omega)).trans (h.tn.block j hj hne)⟩, Boxed.set _ h.c, h.n⟩, keep⟩
/-- How two numbers compare. -/
def ord (n m : Nat) : Int := if n < m then -1 else if m < n then 1 else 0
theorem ord_all {n m : Nat} (hn : n < 10 ^ 128) (hm : m < 10 ^ 128) : ordTo n m 128 = ord n m := by
  unfold ordTo ord
  rw [Nat.mod_eq_of_lt hn, Nat.mod_eq_of_lt hm]

set_option maxRecDepth 100000 in
set_option maxHeartbeats 8000000 in
theorem compare_any (A B n m : Nat) (w : World) (ha : DigAt w A n) (hb : DigAt w B m) (hn : n < 10 ^ 128) (hm : m < 10 ^ 128) :
    Calls Tryd.prog 86 #[.pointer (some ⟨A, 0, none⟩), .pointer (some ⟨B, 0, none⟩)] w fun e w' => e = .returned (.int .i64 (ord n m)) ∧ Below w.heap.size w w' := by
  have HAL := Lib.hid ha.lt
  have HBL := Lib.hid hb.lt
  have HA := Lib.hid ha
  have HB := Lib.hid hb
  have HORD := Lib.hid (ord_all hn hm)
  clear ha hb hn hm
  refine (callsIn_wide (n := 9)).1 ?_
  refine callsIn_of_wp_marks Tryd.func86 rfl trivial ?_ rfl
  simp only [Tryd.ntmps86, List.size_toArray, List.length_cons, List.length_nil, Nat.reduceAdd, Nat.reduceSub, Array.replicate_succ, Array.replicate_zero, List.push_toArray, List.append_toArray, List.nil_append, List.cons_append]
  gi_wp2_with (refine ⟨trivial, ?_⟩; gi_at_call 106; refine (callsIn_wide.2 (pairs_any A B _)).mono ?_; rintro e w2 ⟨rfl, rfl⟩)
  obtain ⟨C, hC⟩ : ∃ C, w.heap.size = C := ⟨_, rfl⟩
  rw [hC]
  obtain ⟨B1, h1⟩ : ∃ B, C + 1 = B := ⟨_, rfl⟩
  rw [h1]
  obtain ⟨B2, h2⟩ : ∃ B, B1 + 1 = B := ⟨_, rfl⟩
  rw [h2]
  obtain ⟨w2, hw2⟩ : ∃ w2, (((w.alloc (.cells #[.int .i64 0] 3)).alloc (.cells #[.pointer (some ⟨A, 0, none⟩)] 87)).alloc (.cells #[.pointer (some ⟨B, 0, none⟩)] 87)) = w2 := ⟨_, rfl⟩
  rw [hw2]
  have hs2 : w2.heap.size = C + 3 := by rw [← hw2]; simp; omega
  have hb2 : Below w.heap.size w w2 := hw2 ▸ (((Below.refl _ _).alloc (Nat.le_refl _) _).alloc (by simp) _).alloc (by simp; omega) _
  have at_ : ∀ (x : World) (o : Obj) (k : Nat), k = x.heap.size → (x.alloc o).heap[k]? = some o := fun x o k hk => by subst hk; exact World.alloc_heap_new x o
  have old_ : ∀ (x : World) (o : Obj) (k : Nat) (u : Obj), x.heap[k]? = some u → (x.alloc o).heap[k]? = some u := fun x o k u hk => (Below.heap_alloc _ _ _ (blk_lt hk)).trans hk
  have hSm : CpI w C n m 0 w2 := by
    refine ⟨Turns.of_below hb2 [], ?_, by omega⟩
    rw [← hw2]
    have : ordTo n m 0 = 0 := by simp [ordTo, Nat.mod_one]
    rw [this]
    exact old_ _ _ _ _ (old_ _ _ _ _ (at_ _ _ _ (by omega)))
  have hPt : PtI B1 B2 A B n m w2 := by
    refine ⟨?_, ?_, HA.out.below hb2, HB.out.below hb2⟩
    · rw [← hw2]; exact old_ _ _ _ _ (at_ _ _ _ (by first | omega | (simp; omega)))
    · rw [← hw2]; exact at_ _ _ _ (by first | omega | (simp; omega))
  have HPT := Lib.hid hPt
  have HSM := Lib.hid hSm
  have HNN : Hid (C = w.heap.size ∧ B1 = C + 1 ∧ B2 = C + 2 ∧ w2.heap.size = C + 3 ∧ A < C ∧ B < C) := Lib.hid (by have := HAL.out; have := HBL.out; omega)
  clear hC h1 h2 hw2 hs2 hb2 at_ old_ hSm hPt HAL HBL HA HB
  refine rangeT (α := Nat) rfl (by omega) (gf := 117) (lb := #[.pointer (some ⟨B1, 0, none⟩), .pointer (some ⟨B2, 0, none⟩)]) rfl trivial (enters_of Tryd.func117 (by kernel_rfl) rfl)
    (encs := pV n m) (Bs := []) (K := KP B1 B2 A B) (S := fun ys => ys = List.range 128) (Sp := fun _ => True) (V := fun pre k => pre = List.range k ∧ k < 128) (w0 := w2)
    (fun l J Jx W hW hJ _ hY h0 => pairs_in (9 - 1) (by omega) l B1 B2 A B n m J Jx hJ (fun pre k W1 h1 h2 => yield_one (hY pre k W1 h1 h2)) W (HPT.out.turned (Turns.of_below hW [])) h0)
    (fun b hb => by simp at hb)
    (fun k hk => by have := HNN.out; unfold KP at hk; omega)
    (Below.refl _ _) (fun _ => rfl)
    (fun pre W => ∃ k, pre = List.range k ∧ CpI w C n m k W)
    (fun _ _ _ => False)
    ?bears (fun _ _ _ _ h _ => h) ?start
    (PairAt n m (C + 5) fun g k => { tmps := #[.pointer (some ⟨A, 0, none⟩), .pointer (some ⟨B, 0, none⟩), undef, undef, .int .i64 0, .pointer (some ⟨C, 0, none⟩), undef, .pointer (some ⟨g, 0, none⟩), .pointer (some ⟨A, 0, none⟩), .pointer (some ⟨B, 0, none⟩), .func (.func 117) #[] #[.pointer (some ⟨B1, 0, none⟩), .pointer (some ⟨B2, 0, none⟩)], .int .i64 k, .agg #[.int .u8 (dig n k), .int .u8 (dig m k)], undef, undef, undef, undef, undef, undef, undef, undef, undef, undef, undef], defers := [] })
    (PairAt.bears _ _ _ _ _ fun b hb => by have := HNN.out; simp at hb; omega) ?assign ?body ?done ?stop
  case start => exact ⟨0, rfl, HSM.out⟩
  case bears =>
    rintro pre X Y ⟨k, hk, hs⟩ ht
    exact ⟨k, hk, hs.turned ht fun b hb => by have := HNN.out; simp at hb; omega⟩
  case assign =>
    intro l pre x W k hi hlt hV hk
    unfold pV
    gi_wp2
    have hal : Turns [] W (W.alloc (.cells #[.int .u8 (dig n x), .int .u8 (dig m x)] 115)) := Turns.alloc [] W _
    obtain ⟨j, hj, hs⟩ := hi
    have nn := HNN.out
    refine hk _ _ ⟨hal.block _ (by omega) (by simp), hal.block _ (by omega) (by simp)⟩ (fun i hi => hal.block i (by unfold KP at hi; omega) (by simp)) ⟨j, hj, hs.turned hal (by simp)⟩ ⟨W.heap.size, rfl, by omega, World.alloc_heap_new _ _⟩
  case stop =>
    rintro c pre W _ h _
    exact h.elim
  case body =>
    rintro l pre x a' W ⟨k, hk, hs⟩ ⟨g, ha', hg, hgx⟩ hlt ⟨hV, hx⟩
    dsimp only at ha' hgx
    subst ha'
    obtain rfl : x = k := by
      have := congrArg List.length (hV.symm.trans hk)
      simpa using this
    subst hV
    have nn := HNN.out
    have HS := Lib.hid hs
    have p0 := cells_at hgx 0
    have p1 := cells_at hgx 1
    have cc := hs.c.cell
    have cf := hs.c.frozen
    have HO := Lib.hid (ordTo_succ n m x)
    clear hs hgx hx hk
    rcases Nat.lt_trichotomy (dig n x) (dig m x) with h | h | h
    · have e1 : (dig n x : Int) < (dig m x : Int) := by omega
      rw [if_pos h] at HO
      clear nn h
      gi_wp2
      have nn := HNN.out
      obtain ⟨h1, h2⟩ := HS.out.next HO.out
      exact ⟨⟨h2 _ (by omega), h2 _ (by omega)⟩, fun j hj => h2 j (by unfold KP at hj; omega), x + 1, by rw [List.range_succ], h1⟩
    · have e1 : ¬ (dig n x : Int) < (dig m x : Int) := by omega
      have e2 : ¬ (dig m x : Int) < (dig n x : Int) := by omega
      rw [if_neg (by omega), if_neg (by omega)] at HO
      clear nn h
      gi_wp2
      have h1 : CpI w C n m (x + 1) W := ⟨HS.out.tn, by rw [HO.out]; exact HS.out.c, HS.out.n⟩
      exact ⟨⟨rfl, rfl⟩, fun j hj => rfl, x + 1, by rw [List.range_succ], h1⟩
    · have e1 : ¬ (dig n x : Int) < (dig m x : Int) := by omega
      have e2 : (dig m x : Int) < (dig n x : Int) := by omega
      rw [if_neg (by omega), if_pos h] at HO
      clear nn h
      gi_wp2
      have nn := HNN.out
      obtain ⟨h1, h2⟩ := HS.out.next HO.out
      exact ⟨⟨h2 _ (by omega), h2 _ (by omega)⟩, fun j hj => h2 j (by unfold KP at hj; omega), x + 1, by rw [List.range_succ], h1⟩
  case done =>
    rintro xs W rfl ⟨k, hk, hs⟩ hD
    obtain rfl : k = 128 := by
      have := congrArg List.length hk
      simp at this
      omega
    have HS := Lib.hid hs
    have cc := hs.c.cell
    clear hs hk
    gi_wp2
    have nn := HNN.out
    refine ⟨by simp, .inl ⟨_, _, rfl, run_takeDeferred hD, ?_⟩⟩
    have ht := HS.out.turned (Turns.putObj (Bs := [w2.heap.size]) (l := w2.heap.size) (by simp) _ (.deferred none)) (by intro b hb; simp at hb; omega)
    exact ⟨_, results_tmp rfl _ _ _, (by show Ending.returned (.int .i64 (ordTo n m 128)) = _; rw [HORD.out]), ⟨ht.tn.os, ht.tn.tape, ht.tn.output, ht.tn.size, fun k hk => ht.tn.block k hk (by simp)⟩⟩

end Go.Proofs.YticbjhogdfpdkaaDoor
