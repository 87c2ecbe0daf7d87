/- sum, difference and compare. -/
import Derived.Test.YticbjhogdfpdkaaDoorF
import Derived.Laws.Rows
import Derived.Laws.Tables
import Derived.Laws.Cells
import Derived.Deep.MidRow
namespace Go.Proofs.YticbjhogdfpdkaaDoor
set_option maxRecDepth 8000
open Go.RowKit Go.Shelf
attribute [local go_sem] Oper.semAt_some

theorem boxed_turns {W W' : World} {B : Nat} {t : TypeId} {v : Value} {Bs : List Nat} (h : Boxed W B t v) (ht : Turns Bs W W') (hn : B ∉ Bs) : Boxed W' B t v := (ht.block B h.lt hn).trans h
theorem turns_below {Bs Cs : List Nat} {w A B : World} (h : Turns Bs w A) (ht : Turns Cs A B) (hc : ∀ c ∈ Cs, c ∈ Bs ∨ w.heap.size ≤ c) : Turns Bs w B :=
  ⟨ht.os.trans h.os, ht.tape.trans h.tape, ht.output.trans h.output, Nat.le_trans h.size ht.size, fun k hk hn => (ht.block k (Nat.lt_of_lt_of_le hk h.size) (fun hm => by rcases hc k hm with h1 | h1; exact hn h1; omega)).trans (h.block k hk hn)⟩
theorem blk_lt {W : World} {g : Nat} {o : Obj} (h : W.heap[g]? = some o) : g < W.heap.size := (Array.getElem?_eq_some_iff.1 h).1
theorem frozen_at {W : World} {g : Nat} {cs : Array Value} {t : TypeId} (h : W.heap[g]? = some (.cells cs t (0, 0))) (i : Nat) : W.frozen? ⟨g, i, none⟩ = false := by simp [World.frozen?, h]
theorem zero43 : Tryd.zeroCells43 = dC 0 := by kernel_rfl
/-- A block of digits. -/
def ArrAt (W : World) (B n : Nat) : Prop := W.heap[B]? = some (.cells (dC n) 43 (0, 0))
theorem ArrAt.at {W : World} {B n : Nat} (h : ArrAt W B n) : DigAt W B n := fun i hi => (cells_at h i).trans (dC_at n hi)
theorem ArrAt.turns {W W' : World} {B n : Nat} {Bs : List Nat} (h : ArrAt W B n) (ht : Turns Bs W W') (hn : B ∉ Bs) : ArrAt W' B n := (ht.block B (blk_lt h) hn).trans h
theorem ArrAt.set {W : World} {B n m k : Nat} {v : Value} (h : ArrAt W B n) (hs : (dC n).setIfInBounds k v = dC m) : ArrAt (W.setCell ⟨B, k, none⟩ v) B m := by
  have := heap_setCell_same W B k (dC n) 43 v h
  rw [hs] at this
  exact this
theorem ArrAt.other {W : World} {B n : Nat} (h : ArrAt W B n) (a : Addr) (v : Value) (hne : B ≠ a.block) : ArrAt (W.setCell a v) B n := (heap_setCell_other _ _ _ _ hne).trans h

theorem under43 : Tryd.prog.underlying 43 = some (.array 128 5) := by kernel_rfl
theorem size43 : (Tryd.prog.info? 43).map (·.size) = some 128 := by kernel_rfl
theorem dC_one (n : Nat) : (dC n).all (·.oneCell') = true := by
  refine Array.all_eq_true_iff_forall_mem.2 fun v hv => ?_
  simp only [dC, dL, List.mem_toArray, List.mem_map] at hv
  obtain ⟨i, _, rfl⟩ := hv
  rfl
/-- A variable that is loaded or stored as a whole, inside the fence. -/
theorem wpListIn_load {F : Fence} {n : Nat} {P : Program} {w : World} {ops : Array Oper} {rest : List Oper} {o : Oper} {a : Act} {Q : Exit → Act → World → Prop}
    (hg : o.guard = none) (ty : TypeId) (x : Operand) (ho : o.op = .load ty x) (ad : Addr) (hx : a.eval x = .pointer (some ad)) (v : Value) (hl : (loadVar ty ad).run P w = .ok v w)
    (h : wpListIn F n P ops Q rest (a.put o.dst v) w) : wpListIn F n P ops Q (o :: rest) a w := by
  refine wpListIn_plain hg fun K hK => ?_
  unfold Oper.wpIn
  refine ⟨?_, ?_⟩
  · simp [Oper.about, ho]
  · rw [Oper.semAt_plain F _ _ (by rw [ho]; intro c hc'; cases hc')]
    simp only [execOp, ho, hx, Instr.loadAt, Instr.sureAddr, Sem.run_bind, Sem.run_pure, Result.andThen_ok, hl]
    exact hK _ _ h
theorem wpListIn_store {F : Fence} {n : Nat} {P : Program} {w : World} {ops : Array Oper} {rest : List Oper} {o : Oper} {a : Act} {Q : Exit → Act → World → Prop}
    (hg : o.guard = none) (ty : TypeId) (x y : Operand) (ho : o.op = .store ty x y) (ad : Addr) (hx : a.eval x = .pointer (some ad)) (v : Value) (hy : a.eval y = v) (w' : World) (hl : (storeVar ty ad v).run P w = .ok () w')
    (h : wpListIn F n P ops Q rest (a.put o.dst undef) w') : wpListIn F n P ops Q (o :: rest) a w := by
  refine wpListIn_plain hg fun K hK => ?_
  unfold Oper.wpIn
  refine ⟨?_, ?_⟩
  · simp [Oper.about, ho]
  · rw [Oper.semAt_plain F _ _ (by rw [ho]; intro c hc'; cases hc')]
    simp only [execOp, ho, hx, hy, Instr.storeAt, Instr.sureAddr, Sem.run_bind, Sem.run_pure, Result.andThen_ok, hl]
    exact hK _ _ h
theorem load_dig {W : World} {B n : Nat} (h : DigAt W B n) : (loadVar 43 ⟨B, 0, none⟩).run Tryd.prog W = .ok (.agg (dC n)) W :=
  run_loadVar_mid W B 0 43 (dL n) _ (fun j v hv => by
    have hj : j < 128 := by have := (List.getElem?_eq_some_iff.1 hv).1; rw [dL_len] at this; exact this
    rw [Nat.zero_add, h j hj]
    have := dC_at n hj
    simp only [dC, List.getElem?_toArray] at this
    exact this.symm.trans hv) under43 rfl (by rw [size43, dL_len])
theorem store_dig {W : World} {B n m : Nat} (h : ArrAt W B n) : (storeVar 43 ⟨B, 0, none⟩ (.agg (dC m))).run Tryd.prog W = .ok () (W.setRow B (dC m)) :=
  run_storeVar_row W B 43 43 (dC n) (dC m) h (by rw [size43, dC_size]) (by rw [dC_size, dC_size]) (dC_one m)
/-- BETWEEN TWO ROUNDS: the result's cell, the digits so far, what is carried. -/
structure SmI (w : World) (R O C : Nat) (t : TypeId) (s : Nat) (v : Value) (W : World) : Prop where
  tn : Turns [] w W
  r : ArrAt W R 0
  o : ArrAt W O s
  c : Boxed W C t v
  n : R = w.heap.size ∧ O = R + 1 ∧ C = R + 2
theorem SmI.turned {w : World} {R O C : Nat} {t : TypeId} {s : Nat} {v : Value} {W W' : World} {Bs : List Nat} (h : SmI w R O C t s v W) (ht : Turns Bs W W') (hB : ∀ b ∈ Bs, R + 3 ≤ b) : SmI w R O C t s v W' := by
  have hn := h.n
  exact ⟨turns_below h.tn ht fun c hc => .inr (by have := hB c hc; omega), h.r.turns ht (fun hm => by have := hB _ hm; omega), h.o.turns ht (fun hm => by have := hB _ hm; omega), boxed_turns h.c ht (fun hm => by have := hB _ hm; omega), h.n⟩
theorem SmI.next {w : World} {R O C : Nat} {t : TypeId} {s s' k : Nat} {v v' x : Value} {W : World} (h : SmI w R O C t s v W) (hs : (dC s).setIfInBounds k x = dC s') :
    SmI w R O C t s' v' ((W.setCell ⟨O, k, none⟩ x).setCell ⟨C, 0, none⟩ v') ∧ ∀ j, j ≠ O → j ≠ C → ((W.setCell ⟨O, k, none⟩ x).setCell ⟨C, 0, none⟩ v').heap[j]? = W.heap[j]? := by
  have hn := h.n
  have keep : ∀ j, j ≠ O → j ≠ C → ((W.setCell ⟨O, k, none⟩ x).setCell ⟨C, 0, none⟩ v').heap[j]? = W.heap[j]? := fun j h1 h2 => (heap_setCell_other _ _ _ _ h2).trans (heap_setCell_other _ _ _ _ h1)
  have hC : Boxed (W.setCell ⟨O, k, none⟩ x) C t v := (heap_setCell_other _ _ _ _ (by simp only; omega)).trans h.c
  refine ⟨⟨⟨h.tn.os, h.tn.tape, h.tn.output, by simpa [World.setCell] using h.tn.size, fun j hj hne => (keep j (by omega) (by omega)).trans (h.tn.block j hj hne)⟩, (keep R (by omega) (by omega)).trans h.r, (h.o.set hs).other _ _ (by simp only; omega), Boxed.set _ hC, h.n⟩, keep⟩
theorem SmI.fin {w : World} {R O C : Nat} {t : TypeId} {s m D : Nat} {v : Value} {W : World} {ob : Obj} (h : SmI w R O C t s v W) (hD : R + 3 ≤ D) :
    ArrAt ((W.setRow R (dC m)).putObj D ob) R m ∧ Below w.heap.size w ((W.setRow R (dC m)).putObj D ob) := by
  have hn := h.n
  have hR : (W.setRow R (dC m)).heap[R]? = some (.cells (dC m) 43 (0, 0)) := setRow_heap W R (dC 0) (dC m) 43 (0, 0) h.r
  refine ⟨(World.putObj_heap_other (by omega)).trans hR, h.tn.os, h.tn.tape, h.tn.output, by simpa [World.putObj] using h.tn.size, fun k hk => ?_⟩
  exact (World.putObj_heap_other (by omega)).trans ((setRow_other W R k (dC m) (by omega)).trans (h.tn.block k hk (by simp)))
theorem ret_arr {fn : Func} {p : Tmp} {W : World} {R m : Nat} {tmps : Array Value} (h : fn.results = #[.cell p 43]) (hp : tmps.getD p undef = .pointer (some ⟨R, 0, none⟩)) (hr : ArrAt W R m) : (results fn tmps).run Tryd.prog W = .ok (.agg (dC m)) W :=
  results_cell_row h tmps W R 43 (dC m) (0, 0) _ hp hr under43 rfl (by rw [size43, dC_size])
/-- A round's pair lies in a block of its own. -/
def PairAt (n m : Nat) (base : Nat) (f : Nat → Nat → Act) (p : Nat × Act) (W : World) : Prop := ∃ g, p.2 = f g p.1 ∧ base ≤ g ∧ W.heap[g]? = some (.cells #[.int .u8 (dig n p.1), .int .u8 (dig m p.1)] 115 (0, 0))
theorem PairAt.bears (n m base : Nat) (f : Nat → Nat → Act) (Bs : List Nat) (h : ∀ b ∈ Bs, b < base) : Bears Bs (PairAt n m base f) := fun p A B hs ht => by
  obtain ⟨g, h1, h2, h3⟩ := hs
  exact ⟨g, h1, h2, (ht.block g (blk_lt h3) (fun hm => by have := h _ hm; omega)).trans h3⟩

set_option maxRecDepth 100000 in
set_option maxHeartbeats 8000000 in
theorem sum_any (A B n m : Nat) (w : World) (ha : DigAt w A n) (hb : DigAt w B m) (hs0 : n + m < 10 ^ 128) :
    Calls Tryd.prog 85 #[.pointer (some ⟨A, 0, none⟩), .pointer (some ⟨B, 0, none⟩)] w fun e w' => e = .returned (.agg (dC (n + m))) ∧ Below w.heap.size w w' := by
  have HAL := Lib.hid ha.lt
  have HBL := Lib.hid hb.lt
  have HA := Lib.hid ha
  have HB := Lib.hid hb
  clear ha hb
  refine (callsIn_wide (n := 9)).1 ?_
  refine callsIn_of_wp_marks Tryd.func85 rfl trivial ?_ rfl
  simp only [Tryd.ntmps85, List.size_toArray, List.length_cons, List.length_nil, Nat.reduceAdd, Nat.reduceSub, Array.replicate_succ, Array.replicate_zero, List.push_toArray, List.append_toArray, List.nil_append, List.cons_append]
  gi_wp2_with (refine ⟨trivial, ?_⟩; gi_at_call 106; refine (callsIn_wide.2 (pairs_any A B _)).mono ?_; rintro e w2 ⟨rfl, rfl⟩)
  rw [zero43]
  obtain ⟨R, hR⟩ : ∃ R, w.heap.size = R := ⟨_, rfl⟩
  rw [hR]
  obtain ⟨O, hO⟩ : ∃ O, R + 1 = O := ⟨_, rfl⟩
  rw [hO]
  obtain ⟨C, hC⟩ : ∃ C, O + 1 = C := ⟨_, rfl⟩
  rw [hC]
  obtain ⟨B1, h1⟩ : ∃ B, C + 1 = B := ⟨_, rfl⟩
  rw [h1]
  obtain ⟨B2, h2⟩ : ∃ B, B1 + 1 = B := ⟨_, rfl⟩
  rw [h2]
  obtain ⟨w2, hw2⟩ : ∃ w2, (((((w.alloc (.cells (dC 0) 43)).alloc (.cells (dC 0) 43)).alloc (.cells #[.int .u8 0] 5)).alloc (.cells #[.pointer (some ⟨A, 0, none⟩)] 87)).alloc (.cells #[.pointer (some ⟨B, 0, none⟩)] 87)) = w2 := ⟨_, rfl⟩
  rw [hw2]
  have hs2 : w2.heap.size = R + 5 := by rw [← hw2]; simp; omega
  have hb2 : Below w.heap.size w w2 := hw2 ▸ (((((Below.refl _ _).alloc (Nat.le_refl _) _).alloc (by simp) _).alloc (by first | omega | (simp; omega)) _).alloc (by first | omega | (simp; omega)) _).alloc (by first | omega | (simp; omega)) _
  have at_ : ∀ (x : World) (o : Obj) (k : Nat), k = x.heap.size → (x.alloc o).heap[k]? = some o := fun x o k hk => by subst hk; exact World.alloc_heap_new x o
  have old_ : ∀ (x : World) (o : Obj) (k : Nat) (u : Obj), x.heap[k]? = some u → (x.alloc o).heap[k]? = some u := fun x o k u hk => (Below.heap_alloc _ _ _ (blk_lt hk)).trans hk
  have hSm : SmI w R O C 5 0 (.int .u8 0) w2 := by
    rw [← hw2]
    refine ⟨by rw [hw2]; exact Turns.of_below hb2 [], old_ _ _ _ _ (old_ _ _ _ _ (old_ _ _ _ _ (old_ _ _ _ _ (at_ _ _ _ (by omega))))), old_ _ _ _ _ (old_ _ _ _ _ (old_ _ _ _ _ (at_ _ _ _ (by first | omega | (simp; omega))))), old_ _ _ _ _ (old_ _ _ _ _ (at_ _ _ _ (by first | omega | (simp; omega)))), by omega⟩
  have hPt : PtI B1 B2 A B n m w2 := by
    refine ⟨?_, ?_, HA.out.below hb2, HB.out.below hb2⟩
    · rw [← hw2]; exact old_ _ _ _ _ (at_ _ _ _ (by first | omega | (simp; omega)))
    · rw [← hw2]; exact at_ _ _ _ (by first | omega | (simp; omega))
  have HPT := Lib.hid hPt
  have HSM := Lib.hid hSm
  have HNN : Hid (R = w.heap.size ∧ O = R + 1 ∧ C = R + 2 ∧ B1 = R + 3 ∧ B2 = R + 4 ∧ w2.heap.size = R + 5 ∧ A < R ∧ B < R) := Lib.hid (by have := HAL.out; have := HBL.out; omega)
  clear hR hO hC h1 h2 hw2 hs2 hb2 at_ old_ hSm hPt HAL HBL HA HB
  refine rangeT (α := Nat) rfl (by omega) (gf := 117) (lb := #[.pointer (some ⟨B1, 0, none⟩), .pointer (some ⟨B2, 0, none⟩)]) rfl trivial (enters_of Tryd.func117 (by kernel_rfl) rfl)
    (encs := pV n m) (Bs := []) (K := KP B1 B2 A B) (S := fun ys => ys = List.range 128) (Sp := fun _ => True) (V := fun pre k => pre = List.range k ∧ k < 128) (w0 := w2)
    (fun l J Jx W hW hJ _ hY h0 => pairs_in (9 - 1) (by omega) l B1 B2 A B n m J Jx hJ (fun pre k W1 h1 h2 => yield_one (hY pre k W1 h1 h2)) W (HPT.out.turned (Turns.of_below hW [])) h0)
    (fun b hb => by simp at hb)
    (fun k hk => by have := HNN.out; unfold KP at hk; omega)
    (Below.refl _ _) (fun _ => rfl)
    (fun pre W => ∃ k, pre = List.range k ∧ SmI w R O C 5 ((n + m) % 10 ^ k) (.int .u8 (carry n m k : Nat)) W)
    (fun _ _ _ => False)
    ?bears (fun _ _ _ _ h _ => h) ?start
    (PairAt n m (R + 7) fun g k => { tmps := #[.pointer (some ⟨A, 0, none⟩), .pointer (some ⟨B, 0, none⟩), undef, undef, .pointer (some ⟨R, 0, none⟩), .pointer (some ⟨O, 0, none⟩), .pointer (some ⟨C, 0, none⟩), .int .i64 k, .pointer (some ⟨g, 0, none⟩), undef, .pointer (some ⟨A, 0, none⟩), .pointer (some ⟨B, 0, none⟩), .func (.func 117) #[] #[.pointer (some ⟨B1, 0, none⟩), .pointer (some ⟨B2, 0, none⟩)], .int .i64 k, .agg #[.int .u8 (dig n k), .int .u8 (dig m k)], undef, undef, undef, undef, undef, undef, undef, undef, undef, undef, undef, undef, undef, undef], defers := [] })
    (PairAt.bears _ _ _ _ _ fun b hb => by have := HNN.out; simp at hb; omega) ?assign ?body ?done ?stop
  case start => exact ⟨0, rfl, by simpa [Nat.mod_one, carry, owed, ordTo] using HSM.out⟩
  case bears =>
    rintro pre X Y ⟨k, hk, hs⟩ ht
    exact ⟨k, hk, hs.turned ht fun b hb => by have := HNN.out; simp at hb; omega⟩
  case assign =>
    intro l pre x W k hi hlt hV hk
    unfold pV
    gi_wp2
    have hal : Turns [] W (W.alloc (.cells #[.int .u8 (dig n x), .int .u8 (dig m x)] 115)) := Turns.alloc [] W _
    obtain ⟨j, hj, hs⟩ := hi
    have nn := HNN.out
    refine hk _ _ ⟨hal.block _ (by omega) (by simp), hal.block _ (by omega) (by simp)⟩ (fun i hi => hal.block i (by unfold KP at hi; omega) (by simp)) ⟨j, hj, hs.turned hal (by simp)⟩ ⟨W.heap.size, rfl, by omega, World.alloc_heap_new _ _⟩
  case stop =>
    rintro c pre W _ h _
    exact h.elim
  case body =>
    rintro l pre x a' W ⟨k, hk, hs⟩ ⟨g, ha', hg, hgx⟩ hlt ⟨hV, hx⟩
    dsimp only at ha' hgx
    subst ha'
    obtain rfl : x = k := by
      have := congrArg List.length (hV.symm.trans hk)
      simpa using this
    subst hV
    have nn := HNN.out
    have HS := Lib.hid hs
    have HX := Lib.hid hx
    have p0 := cells_at hgx 0
    have p1 := cells_at hgx 1
    have cc := hs.c.cell
    have cf := hs.c.frozen
    have o0 := (cells_at hs.o x).trans (dC_at _ hx)
    have of := frozen_at hs.o x
    have e1 : (0 : Int) ≤ (x : Int) := by omega
    have e2 : (x : Int) < 128 := by omega
    have hne : ¬ O = C := by omega
    have hne2 : ¬ C = O := by omega
    have d1 := dig_lt n x
    have d2 := dig_lt m x
    clear hs hgx hx hk nn
    gi_wp2
    have c1 := carry_le n m x
    have v1 : ((dig n x : Int) + (dig m x : Int) + (carry n m x : Int)) % 256 % 10 = (dig (n + m) x : Nat) := by rw [dig_sum]; omega
    have v2 : ((dig n x : Int) + (dig m x : Int) + (carry n m x : Int)) % 256 / 10 = (carry n m (x + 1) : Nat) := by rw [carry_succ]; omega
    rw [v1, v2]
    have nn := HNN.out
    obtain ⟨h1, h2⟩ := HS.out.next (v' := .int .u8 (carry n m (x + 1) : Nat)) (dC_next (n + m) x)
    exact ⟨⟨h2 _ (by omega) (by omega), h2 _ (by omega) (by omega)⟩, fun j hj => h2 j (by unfold KP at hj; omega) (by unfold KP at hj; omega), x + 1, by rw [List.range_succ], h1⟩
  case done =>
    rintro xs W rfl ⟨k, hk, hs⟩ hD
    obtain rfl : k = 128 := by
      have := congrArg List.length hk
      simp at this
      omega
    rw [Nat.mod_eq_of_lt hs0] at hs
    have HS := Lib.hid hs
    have LD := Lib.hid (load_dig hs.o.at)
    have ST := Lib.hid (store_dig (m := (n + m)) hs.r)
    clear hs hk
    gi_wp2_with (first
      | refine wpListIn_load rfl 43 _ rfl ⟨O, 0, none⟩ rfl _ LD.out ?_
      | refine wpListIn_store rfl 43 _ _ rfl ⟨R, 0, none⟩ rfl _ rfl _ ST.out ?_)
    have nn := HNN.out
    have hD3 : (W.setRow R (dC (n + m))).heap[w2.heap.size]? = some (.deferred (some [])) := (setRow_other W R _ (dC (n + m)) (by omega)).trans hD
    refine ⟨by simp, .inl ⟨_, _, rfl, run_takeDeferred hD3, ?_⟩⟩
    obtain ⟨h1, h2⟩ := HS.out.fin (m := (n + m)) (D := w2.heap.size) (ob := .deferred none) (by omega)
    exact ⟨_, ret_arr rfl rfl h1, rfl, h2⟩

set_option maxRecDepth 100000 in
set_option maxHeartbeats 8000000 in
theorem difference_any (A B n m : Nat) (w : World) (ha : DigAt w A n) (hb : DigAt w B m) (hle : m ≤ n) (hs0 : n < 10 ^ 128) :
    Calls Tryd.prog 87 #[.pointer (some ⟨A, 0, none⟩), .pointer (some ⟨B, 0, none⟩)] w fun e w' => e = .returned (.agg (dC (n - m))) ∧ Below w.heap.size w w' := by
  have HAL := Lib.hid ha.lt
  have HBL := Lib.hid hb.lt
  have HA := Lib.hid ha
  have HB := Lib.hid hb
  clear ha hb
  refine (callsIn_wide (n := 9)).1 ?_
  refine callsIn_of_wp_marks Tryd.func87 rfl trivial ?_ rfl
  simp only [Tryd.ntmps87, List.size_toArray, List.length_cons, List.length_nil, Nat.reduceAdd, Nat.reduceSub, Array.replicate_succ, Array.replicate_zero, List.push_toArray, List.append_toArray, List.nil_append, List.cons_append]
  gi_wp2_with (refine ⟨trivial, ?_⟩; gi_at_call 106; refine (callsIn_wide.2 (pairs_any A B _)).mono ?_; rintro e w2 ⟨rfl, rfl⟩)
  rw [zero43]
  obtain ⟨R, hR⟩ : ∃ R, w.heap.size = R := ⟨_, rfl⟩
  rw [hR]
  obtain ⟨O, hO⟩ : ∃ O, R + 1 = O := ⟨_, rfl⟩
  rw [hO]
  obtain ⟨C, hC⟩ : ∃ C, O + 1 = C := ⟨_, rfl⟩
  rw [hC]
  obtain ⟨B1, h1⟩ : ∃ B, C + 1 = B := ⟨_, rfl⟩
  rw [h1]
  obtain ⟨B2, h2⟩ : ∃ B, B1 + 1 = B := ⟨_, rfl⟩
  rw [h2]
  obtain ⟨w2, hw2⟩ : ∃ w2, (((((w.alloc (.cells (dC 0) 43)).alloc (.cells (dC 0) 43)).alloc (.cells #[.int .u8 0] 5)).alloc (.cells #[.pointer (some ⟨A, 0, none⟩)] 87)).alloc (.cells #[.pointer (some ⟨B, 0, none⟩)] 87)) = w2 := ⟨_, rfl⟩
  rw [hw2]
  have hs2 : w2.heap.size = R + 5 := by rw [← hw2]; simp; omega
  have hb2 : Below w.heap.size w w2 := hw2 ▸ (((((Below.refl _ _).alloc (Nat.le_refl _) _).alloc (by simp) _).alloc (by first | omega | (simp; omega)) _).alloc (by first | omega | (simp; omega)) _).alloc (by first | omega | (simp; omega)) _
  have at_ : ∀ (x : World) (o : Obj) (k : Nat), k = x.heap.size → (x.alloc o).heap[k]? = some o := fun x o k hk => by subst hk; exact World.alloc_heap_new x o
  have old_ : ∀ (x : World) (o : Obj) (k : Nat) (u : Obj), x.heap[k]? = some u → (x.alloc o).heap[k]? = some u := fun x o k u hk => (Below.heap_alloc _ _ _ (blk_lt hk)).trans hk
  have hSm : SmI w R O C 5 0 (.int .u8 0) w2 := by
    rw [← hw2]
    refine ⟨by rw [hw2]; exact Turns.of_below hb2 [], old_ _ _ _ _ (old_ _ _ _ _ (old_ _ _ _ _ (old_ _ _ _ _ (at_ _ _ _ (by omega))))), old_ _ _ _ _ (old_ _ _ _ _ (old_ _ _ _ _ (at_ _ _ _ (by first | omega | (simp; omega))))), old_ _ _ _ _ (old_ _ _ _ _ (at_ _ _ _ (by first | omega | (simp; omega)))), by omega⟩
  have hPt : PtI B1 B2 A B n m w2 := by
    refine ⟨?_, ?_, HA.out.below hb2, HB.out.below hb2⟩
    · rw [← hw2]; exact old_ _ _ _ _ (at_ _ _ _ (by first | omega | (simp; omega)))
    · rw [← hw2]; exact at_ _ _ _ (by first | omega | (simp; omega))
  have HPT := Lib.hid hPt
  have HSM := Lib.hid hSm
  have HNN : Hid (R = w.heap.size ∧ O = R + 1 ∧ C = R + 2 ∧ B1 = R + 3 ∧ B2 = R + 4 ∧ w2.heap.size = R + 5 ∧ A < R ∧ B < R) := Lib.hid (by have := HAL.out; have := HBL.out; omega)
  clear hR hO hC h1 h2 hw2 hs2 hb2 at_ old_ hSm hPt HAL HBL HA HB
  refine rangeT (α := Nat) rfl (by omega) (gf := 117) (lb := #[.pointer (some ⟨B1, 0, none⟩), .pointer (some ⟨B2, 0, none⟩)]) rfl trivial (enters_of Tryd.func117 (by kernel_rfl) rfl)
    (encs := pV n m) (Bs := []) (K := KP B1 B2 A B) (S := fun ys => ys = List.range 128) (Sp := fun _ => True) (V := fun pre k => pre = List.range k ∧ k < 128) (w0 := w2)
    (fun l J Jx W hW hJ _ hY h0 => pairs_in (9 - 1) (by omega) l B1 B2 A B n m J Jx hJ (fun pre k W1 h1 h2 => yield_one (hY pre k W1 h1 h2)) W (HPT.out.turned (Turns.of_below hW [])) h0)
    (fun b hb => by simp at hb)
    (fun k hk => by have := HNN.out; unfold KP at hk; omega)
    (Below.refl _ _) (fun _ => rfl)
    (fun pre W => ∃ k, pre = List.range k ∧ SmI w R O C 5 ((n - m) % 10 ^ k) (.int .u8 (owed n m k : Nat)) W)
    (fun _ _ _ => False)
    ?bears (fun _ _ _ _ h _ => h) ?start
    (PairAt n m (R + 7) fun g k => { tmps := #[.pointer (some ⟨A, 0, none⟩), .pointer (some ⟨B, 0, none⟩), undef, undef, .pointer (some ⟨R, 0, none⟩), .pointer (some ⟨O, 0, none⟩), .pointer (some ⟨C, 0, none⟩), .int .i64 k, .pointer (some ⟨g, 0, none⟩), undef, .pointer (some ⟨A, 0, none⟩), .pointer (some ⟨B, 0, none⟩), .func (.func 117) #[] #[.pointer (some ⟨B1, 0, none⟩), .pointer (some ⟨B2, 0, none⟩)], .int .i64 k, .agg #[.int .u8 (dig n k), .int .u8 (dig m k)], undef, undef, undef, undef, undef, undef, undef, undef, undef, undef, undef, undef, undef, undef, undef, undef], defers := [] })
    (PairAt.bears _ _ _ _ _ fun b hb => by have := HNN.out; simp at hb; omega) ?assign ?body ?done ?stop
  case start => exact ⟨0, rfl, by simpa [Nat.mod_one, carry, owed, ordTo] using HSM.out⟩
  case bears =>
    rintro pre X Y ⟨k, hk, hs⟩ ht
    exact ⟨k, hk, hs.turned ht fun b hb => by have := HNN.out; simp at hb; omega⟩
  case assign =>
    intro l pre x W k hi hlt hV hk
    unfold pV
    gi_wp2
    have hal : Turns [] W (W.alloc (.cells #[.int .u8 (dig n x), .int .u8 (dig m x)] 115)) := Turns.alloc [] W _
    obtain ⟨j, hj, hs⟩ := hi
    have nn := HNN.out
    refine hk _ _ ⟨hal.block _ (by omega) (by simp), hal.block _ (by omega) (by simp)⟩ (fun i hi => hal.block i (by unfold KP at hi; omega) (by simp)) ⟨j, hj, hs.turned hal (by simp)⟩ ⟨W.heap.size, rfl, by omega, World.alloc_heap_new _ _⟩
  case stop =>
    rintro c pre W _ h _
    exact h.elim
  case body =>
    rintro l pre x a' W ⟨k, hk, hs⟩ ⟨g, ha', hg, hgx⟩ hlt ⟨hV, hx⟩
    dsimp only at ha' hgx
    subst ha'
    obtain rfl : x = k := by
      have := congrArg List.length (hV.symm.trans hk)
      simpa using this
    subst hV
    have nn := HNN.out
    have HS := Lib.hid hs
    have HX := Lib.hid hx
    have p0 := cells_at hgx 0
    have p1 := cells_at hgx 1
    have cc := hs.c.cell
    have cf := hs.c.frozen
    have o0 := (cells_at hs.o x).trans (dC_at _ hx)
    have of := frozen_at hs.o x
    have e1 : (0 : Int) ≤ (x : Int) := by omega
    have e2 : (x : Int) < 128 := by omega
    have hne : ¬ O = C := by omega
    have hne2 : ¬ C = O := by omega
    have d1 := dig_lt n x
    have d2 := dig_lt m x
    have c1 : owed n m x ≤ 1 := by unfold owed; split <;> omega
    clear hs hgx hx hk nn
    gi_wp2
    have v1 : (10 + (dig n x : Int) - (dig m x : Int) - (owed n m x : Int)) % 10 = (dig (n - m) x : Nat) := by rw [dig_diff hle]; omega
    have v2 : 1 - (10 + (dig n x : Int) - (dig m x : Int) - (owed n m x : Int)) / 10 = (owed n m (x + 1) : Nat) := by rw [owed_succ]; omega
    rw [v1, v2]
    have nn := HNN.out
    obtain ⟨h1, h2⟩ := HS.out.next (v' := .int .u8 (owed n m (x + 1) : Nat)) (dC_next (n - m) x)
    exact ⟨⟨h2 _ (by omega) (by omega), h2 _ (by omega) (by omega)⟩, fun j hj => h2 j (by unfold KP at hj; omega) (by unfold KP at hj; omega), x + 1, by rw [List.range_succ], h1⟩
  case done =>
    rintro xs W rfl ⟨k, hk, hs⟩ hD
    obtain rfl : k = 128 := by
      have := congrArg List.length hk
      simp at this
      omega
    rw [Nat.mod_eq_of_lt (Nat.lt_of_le_of_lt (Nat.sub_le _ _) hs0)] at hs
    have HS := Lib.hid hs
    have LD := Lib.hid (load_dig hs.o.at)
    have ST := Lib.hid (store_dig (m := (n - m)) hs.r)
    clear hs hk
    gi_wp2_with (first
      | refine wpListIn_load rfl 43 _ rfl ⟨O, 0, none⟩ rfl _ LD.out ?_
      | refine wpListIn_store rfl 43 _ _ rfl ⟨R, 0, none⟩ rfl _ rfl _ ST.out ?_)
    have nn := HNN.out
    have hD3 : (W.setRow R (dC (n - m))).heap[w2.heap.size]? = some (.deferred (some [])) := (setRow_other W R _ (dC (n - m)) (by omega)).trans hD
    refine ⟨by simp, .inl ⟨_, _, rfl, run_takeDeferred hD3, ?_⟩⟩
    obtain ⟨h1, h2⟩ := HS.out.fin (m := (n - m)) (D := w2.heap.size) (ob := .deferred none) (by omega)
    exact ⟨_, ret_arr rfl rfl h1, rfl, h2⟩

end Go.Proofs.YticbjhogdfpdkaaDoor
