/- between's function at two texts. -/
import Derived.Test.YtnebjdjebnphnaaDoorEb
import Derived.Lib.BufferRead
import Derived.Laws.IdiomStrings
namespace Go.Proofs.YtnebjdjebnphnaaDoor
set_option maxRecDepth 8000
open Go.RowKit Go.Shelf
attribute [local go_sem] Oper.semAt_some

theorem boxed_turns {W W' : World} {B : Nat} {t : TypeId} {v : Value} {Bs : List Nat} (h : Boxed W B t v) (ht : Turns Bs W W') (hn : B ∉ Bs) : Boxed W' B t v := (ht.block B h.lt hn).trans h
theorem ownsRow_turns {W W' : World} {base : Nat} {e : TypeId} {size n : Nat} {v : Value} {xs : List Value} {Bs : List Nat} (h : W.ownsRow base e size v n xs) (ht : Turns Bs W W') (hB : ∀ b ∈ Bs, b < base) : W'.ownsRow base e size v n xs := by
  refine ⟨h.1, ?_⟩
  rcases h.2 with hn | ⟨g, cap, cur, rfl, hb, hgg, rest⟩
  · exact .inl hn
  · exact .inr ⟨g, cap, cur, rfl, hb, (ht.block g (Array.getElem?_eq_some_iff.1 hgg).1 (fun hm => by have := hB g hm; omega)).trans hgg, rest⟩
theorem turns_below {Bs Cs : List Nat} {w A B : World} (h : Turns Bs w A) (ht : Turns Cs A B) (hc : ∀ c ∈ Cs, c ∈ Bs ∨ w.heap.size ≤ c) : Turns Bs w B :=
  ⟨ht.os.trans h.os, ht.tape.trans h.tape, ht.output.trans h.output, Nat.le_trans h.size ht.size, fun k hk hn => (ht.block k (Nat.lt_of_lt_of_le hk h.size) (fun hm => by rcases hc k hm with h1 | h1; exact hn h1; omega)).trans (h.block k hk hn)⟩
theorem own_form5 {W : World} {base n : Nat} {sv : Value} {xs : List Value} (h : W.ownsRow base 5 1 sv n xs) : ∃ a c, sv = .slice a n c := by
  rcases h.2 with ⟨rfl, rfl⟩ | ⟨g, cap, _, rfl, _⟩
  · exact ⟨none, 0, rfl⟩
  · exact ⟨some ⟨g, 0, none⟩, cap, rfl⟩
theorem conv_own {W : World} {base : Nat} {s : ByteArray} {sv : Value} (h : W.ownsRow base 5 1 sv s.size (Lib.strCells s)) : (convert 61 9 sv).run Tryd.prog W = .ok (.string s) W := by
  have hl : s.data.toList.length = s.size := by simp
  rcases h.2 with ⟨rfl, h0⟩ | ⟨g, cap, cur, rfl, _, hg, _, _, _, htk⟩
  · obtain rfl : s = ⟨#[]⟩ := by
      apply ByteArray.ext
      exact Array.eq_empty_of_size_eq_zero h0
    exact Lib.run_convert_nil_bytes W 61 9 5 0 Tryd.underlying61 Tryd.underlying5 Tryd.underlying9
  · have h1 := run_convert_bytes_back W 61 9 5 ⟨g, 0, none⟩ cap s.data.toList Tryd.underlying61 Tryd.underlying5 Tryd.underlying9 fun j hj => by
      refine h.cells (g := g) rfl j _ ?_
      have hj' : j < s.data.size := by simpa using hj
      simp only [Lib.strCells, List.getElem?_map, List.getElem?_eq_getElem hj, Option.map_some]
    rw [hl] at h1
    rw [h1]

/-- BETWEEN TWO ROUNDS: the results' boxes, the bytes so far. -/
structure BwI (w : World) (n R1 R2 Bb base : Nat) (r0 : ByteArray) (r1 r2 : Int) (sv : Value) (xs : List Value) (W : World) : Prop where
  t : Turns [] w W
  b0 : Boxed W n 9 (.string r0)
  b1 : Boxed W R1 3 (.int .i64 r1)
  b2 : Boxed W R2 24 (.int .i64 r2)
  b : Boxed W Bb 61 sv
  own : W.ownsRow base 5 1 sv xs.length xs
  n : n = w.heap.size ∧ R1 = n + 1 ∧ R2 = n + 2 ∧ Bb = n + 3 ∧ base = n + 8
section
variable {w : World} {n R1 R2 Bb base : Nat} {r0 : ByteArray} {r1 r2 : Int} {sv : Value} {xs : List Value} {W W' : World}
theorem BwI.turned {Bs : List Nat} (h : BwI w n R1 R2 Bb base r0 r1 r2 sv xs W) (ht : Turns Bs W W') (hB : ∀ b ∈ Bs, n + 4 ≤ b ∧ b < n + 8) : BwI w n R1 R2 Bb base r0 r1 r2 sv xs W' := by
  have hn := h.n
  exact ⟨turns_below h.t ht fun c hc => .inr (by have := hB c hc; omega), boxed_turns h.b0 ht (fun hm => by have := hB _ hm; omega), boxed_turns h.b1 ht (fun hm => by have := hB _ hm; omega), boxed_turns h.b2 ht (fun hm => by have := hB _ hm; omega), boxed_turns h.b ht (fun hm => by have := hB _ hm; omega), ownsRow_turns h.own ht fun b hb => by have := hB b hb; omega, h.n⟩
/-- Blocks below the row stay where bytes are added. -/
theorem BwI.stays (h : BwI w n R1 R2 Bb base r0 r1 r2 sv xs W) (hg : W.grownBy W' sv.ownBlock) {k : Nat} (hk : k < base) (hl : k < W.heap.size) : W'.heap[k]? = W.heap[k]? :=
  hg.block k hl fun e => by have := (h.own.lt k e.symm).1; omega
/-- Bytes were added, and the row stored. -/
theorem BwI.put {ys : List Value} {a : Option Addr} {c : Nat} (h : BwI w n R1 R2 Bb base r0 r1 r2 sv xs W) (hg : W.grownBy W' sv.ownBlock) (ho : W'.ownsRow base 5 1 (.slice a (xs.length + ys.length) c) (xs.length + ys.length) (xs ++ ys)) :
    BwI w n R1 R2 Bb base r0 r1 r2 (.slice a (xs.length + ys.length) c) (xs ++ ys) (W'.setCell ⟨Bb, 0, none⟩ (.slice a (xs.length + ys.length) c)) ∧
    ∀ k, k < base → k ≠ Bb → k < W.heap.size → (W'.setCell ⟨Bb, 0, none⟩ (.slice a (xs.length + ys.length) c)).heap[k]? = W.heap[k]? := by
  have hn := h.n
  have hkeep : ∀ k, k < base → k ≠ Bb → k < W.heap.size → (W'.setCell ⟨Bb, 0, none⟩ (.slice a (xs.length + ys.length) c)).heap[k]? = W.heap[k]? := fun k h1 h2 h3 =>
    ((grownBy_cell W' ⟨Bb, 0, none⟩ (.slice a (xs.length + ys.length) c)).block k (Nat.lt_of_lt_of_le h3 hg.size) (fun e => h2 (by simpa using e))).trans (h.stays hg h1 h3)
  have hb' : Boxed W' Bb 61 sv := (h.stays hg (by omega) h.b.lt).trans h.b
  refine ⟨⟨?_, (hkeep n (by omega) (by omega) h.b0.lt).trans h.b0, (hkeep R1 (by omega) (by omega) h.b1.lt).trans h.b1, (hkeep R2 (by omega) (by omega) h.b2.lt).trans h.b2, Boxed.set _ hb', ?_, h.n⟩, hkeep⟩
  · have g4 := grownBy_cell W' ⟨Bb, 0, none⟩ (.slice a (xs.length + ys.length) c)
    exact ⟨g4.os.trans (hg.os.trans h.t.os), g4.tape.trans (hg.tape.trans h.t.tape), g4.output.trans (hg.output.trans h.t.output), Nat.le_trans h.t.size (Nat.le_trans hg.size g4.size), fun j hj hne => (hkeep j (by omega) (by omega) (Nat.lt_of_lt_of_le hj h.t.size)).trans (h.t.block j hj hne)⟩
  · rw [List.length_append]
    exact ho.kept (grownBy_cell W' ⟨Bb, 0, none⟩ (.slice a (xs.length + ys.length) c)) (.inr fun e => by have h9 := (ho.lt _ e).1; simp at h9; omega)
/-- A result is stored. -/
theorem BwI.set0 (h : BwI w n R1 R2 Bb base r0 r1 r2 sv xs W) (s : ByteArray) : BwI w n R1 R2 Bb base s r1 r2 sv xs (W.setCell ⟨n, 0, none⟩ (.string s)) := by
  have hn := h.n
  have g4 := grownBy_cell W ⟨n, 0, none⟩ (.string s)
  exact ⟨⟨g4.os.trans h.t.os, g4.tape.trans h.t.tape, g4.output.trans h.t.output, Nat.le_trans h.t.size g4.size, fun j hj hne => (heap_setCell_other _ _ _ _ (by simp; omega)).trans (h.t.block j hj hne)⟩, Boxed.set _ h.b0, (heap_setCell_other _ _ _ _ (by simp; omega)).trans h.b1, (heap_setCell_other _ _ _ _ (by simp; omega)).trans h.b2, (heap_setCell_other _ _ _ _ (by simp; omega)).trans h.b, h.own.kept g4 (.inr fun e => by have h9 := (h.own.lt _ e).1; simp at h9; omega), h.n⟩
theorem BwI.set1 (h : BwI w n R1 R2 Bb base r0 r1 r2 sv xs W) (s : Int) : BwI w n R1 R2 Bb base r0 s r2 sv xs (W.setCell ⟨R1, 0, none⟩ (.int .i64 s)) := by
  have hn := h.n
  have g4 := grownBy_cell W ⟨R1, 0, none⟩ (.int .i64 s)
  exact ⟨⟨g4.os.trans h.t.os, g4.tape.trans h.t.tape, g4.output.trans h.t.output, Nat.le_trans h.t.size g4.size, fun j hj hne => (heap_setCell_other _ _ _ _ (by simp; omega)).trans (h.t.block j hj hne)⟩, (heap_setCell_other _ _ _ _ (by simp; omega)).trans h.b0, Boxed.set _ h.b1, (heap_setCell_other _ _ _ _ (by simp; omega)).trans h.b2, (heap_setCell_other _ _ _ _ (by simp; omega)).trans h.b, h.own.kept g4 (.inr fun e => by have h9 := (h.own.lt _ e).1; simp at h9; omega), h.n⟩
theorem BwI.set2 (h : BwI w n R1 R2 Bb base r0 r1 r2 sv xs W) (s : Int) : BwI w n R1 R2 Bb base r0 r1 s sv xs (W.setCell ⟨R2, 0, none⟩ (.int .i64 s)) := by
  have hn := h.n
  have g4 := grownBy_cell W ⟨R2, 0, none⟩ (.int .i64 s)
  exact ⟨⟨g4.os.trans h.t.os, g4.tape.trans h.t.tape, g4.output.trans h.t.output, Nat.le_trans h.t.size g4.size, fun j hj hne => (heap_setCell_other _ _ _ _ (by simp; omega)).trans (h.t.block j hj hne)⟩, (heap_setCell_other _ _ _ _ (by simp; omega)).trans h.b0, (heap_setCell_other _ _ _ _ (by simp; omega)).trans h.b1, Boxed.set _ h.b2, (heap_setCell_other _ _ _ _ (by simp; omega)).trans h.b, h.own.kept g4 (.inr fun e => by have h9 := (h.own.lt _ e).1; simp at h9; omega), h.n⟩
theorem BwI.below (h : BwI w n R1 R2 Bb base r0 r1 r2 sv xs W) : Below w.heap.size w W := ⟨h.t.os, h.t.tape, h.t.output, h.t.size, fun k hk => h.t.block k hk (by simp)⟩
end
theorem results_cell3 {fn : Func} {p q r : Tmp} {tp tq tr : TypeId} (h : fn.results = #[.cell p tp, .cell q tq, .cell r tr]) (tmps : Array Value) (P : Program) (w : World) :
    (results fn tmps).run P w =
      ((asAddr (tmps.getD p undef)).run P w).andThen fun a w₁ => ((loadVar tp a).run P w₁).andThen fun v w₂ =>
      ((asAddr (tmps.getD q undef)).run P w₂).andThen fun b w₃ => ((loadVar tq b).run P w₃).andThen fun u w₄ =>
      ((asAddr (tmps.getD r undef)).run P w₄).andThen fun c w₅ => ((loadVar tr c).run P w₅).andThen fun x w₆ => .ok (.tuple #[v, u, x]) w₆ := by
  simp only [results, h]
  simp [Sem.run_bind, Result.andThen]
/-- What between's function returns. -/
theorem bw_results {w : World} {n R1 R2 Bb base : Nat} {r0 : ByteArray} {r1 r2 : Int} {sv : Value} {xs : List Value} {W : World} (h : BwI w n R1 R2 Bb base r0 r1 r2 sv xs W) {tmps : Array Value} (h4 : tmps.getD 4 undef = .pointer (some ⟨n, 0, none⟩)) (h5 : tmps.getD 5 undef = .pointer (some ⟨R1, 0, none⟩)) (h6 : tmps.getD 6 undef = .pointer (some ⟨R2, 0, none⟩)) :
    (results Tryd.f53 tmps).run Tryd.prog W = .ok (.tuple #[.string r0, .int .i64 r1, .int .i64 r2]) W := by
  rw [results_cell3 (show Tryd.f53.results = #[.cell 4 9, .cell 5 3, .cell 6 24] from rfl), h4, h5, h6]
  have c0 := h.b0.cell
  have c1 := h.b1.cell
  have c2 := h.b2.cell
  go_simp

set_option maxRecDepth 100000 in
set_option maxHeartbeats 8000000 in
theorem between1 (w : World) (bf bt : Nat) (hE : Env w) (hf : Boxed w bf 3 (.int .i64 2)) (ht : Boxed w bt 59 (.iface 79 (.agg #[]))) :
    Calls Tryd.prog 53 #[.string ⟨#[228]⟩, .pointer (some ⟨bf, 0, none⟩), .pointer (some ⟨bt, 0, none⟩)] w fun e w' => e = .returned (.tuple #[.string ⟨#[195, 164]⟩, .int .i64 0, .int .i64 0]) ∧ Below w.heap.size w w' := by
  have HE := Lib.hid hE
  have hbf := hf.lt
  have hbt := ht.lt
  have hm : ∀ w : World, (method 249 79 (.agg #[]) "intermede/codeset.put").run Tryd.prog w = .ok (112, .agg #[]) w := fun _ => by kernel_rfl
  have cf0 : ∀ W, Hid (Below w.heap.size w W → W.cell? ⟨bf, 0, none⟩ = some (.int .i64 2)) := fun W => Lib.hid fun hb => (hb.cell (p := ⟨bf, 0, none⟩) hbf).trans hf.cell
  have HT := Lib.hid ht
  obtain ⟨n, hn⟩ : ∃ n, w.heap.size = n := ⟨_, rfl⟩
  have hn4 := hE.four
  rw [hn] at hn4
  have HB4 : Hid (∀ o1 o2 o3 o4, Below w.heap.size w ((((w.alloc o1).alloc o2).alloc o3).alloc o4)) := Lib.hid fun o1 o2 o3 o4 => ((((Below.refl _ _).alloc (Nat.le_refl _) _).alloc (by simp) _).alloc (by simp; omega) _).alloc (by simp; omega) _
  obtain ⟨w4, hw4⟩ : ∃ w4, (((w.alloc (.cells #[.string ⟨#[]⟩] 9)).alloc (.cells #[.int .i64 0] 3)).alloc (.cells #[.int .i64 0] 24)).alloc (.cells #[.slice none 0 0] 61) = w4 := ⟨_, rfl⟩
  have hs4 : w4.heap.size = w.heap.size + 4 := by rw [← hw4]; simp
  have hb4 : Below w.heap.size w w4 := hw4 ▸ HB4.out _ _ _ _
  have hx0 : Boxed w4 w.heap.size 9 (.string ⟨#[]⟩) := hw4 ▸ (((Boxed.new w 9 _).alloc _).alloc _).alloc _
  have hx1 : Boxed w4 (w.heap.size + 1) 3 (.int .i64 0) := by
    rw [← hw4]
    have := ((Boxed.new (w.alloc (.cells #[.string ⟨#[]⟩] 9)) 3 (.int .i64 0)).alloc (.cells #[.int .i64 0] 24)).alloc (.cells #[.slice none 0 0] 61)
    rwa [World.size_alloc] at this
  have hx2 : Boxed w4 (w.heap.size + 2) 24 (.int .i64 0) := by
    rw [← hw4]
    have := (Boxed.new ((w.alloc (.cells #[.string ⟨#[]⟩] 9)).alloc (.cells #[.int .i64 0] 3)) 24 (.int .i64 0)).alloc (.cells #[.slice none 0 0] 61)
    rwa [World.size_alloc, World.size_alloc] at this
  have hx3 : Boxed w4 (w.heap.size + 3) 61 (.slice none 0 0) := by
    rw [← hw4]
    have := Boxed.new (((w.alloc (.cells #[.string ⟨#[]⟩] 9)).alloc (.cells #[.int .i64 0] 3)).alloc (.cells #[.int .i64 0] 24)) 61 (.slice none 0 0)
    rwa [World.size_alloc, World.size_alloc, World.size_alloc] at this
  have cf := (cf0 w4).out hb4
  have PT := Lib.hid (points_any 2 ⟨#[228]⟩ w4 (by omega))
  have HHW := Lib.hid hw4
  refine (callsIn_wide (n := 9)).1 ?_
  refine callsIn_of_wp_marks Tryd.func53 rfl trivial ?_ rfl
  simp only [Tryd.ntmps53, List.size_toArray, List.length_cons, List.length_nil, Nat.reduceAdd, Nat.reduceSub, Array.replicate_succ, Array.replicate_zero, List.push_toArray, List.append_toArray, List.nil_append, List.cons_append]
  gi_wp2_with (refine ⟨trivial, ?_⟩; gi_at_call 31; refine (callsIn_wide.2 PT.out).mono ?_; rintro e w2 ⟨rfl, rfl⟩)
  obtain ⟨R1, h1⟩ : ∃ R, n + 1 = R := ⟨_, rfl⟩
  obtain ⟨R2, h2⟩ : ∃ R, R1 + 1 = R := ⟨_, rfl⟩
  obtain ⟨Bb, h3⟩ : ∃ R, R2 + 1 = R := ⟨_, rfl⟩
  obtain ⟨Bs, h4⟩ : ∃ R, n + 4 = R := ⟨_, rfl⟩
  obtain ⟨Bc, h5⟩ : ∃ R, Bs + 1 = R := ⟨_, rfl⟩
  obtain ⟨base, h6⟩ : ∃ R, n + 8 = R := ⟨_, rfl⟩
  rw [h1, h2, h3, h4, h5]
  obtain ⟨w2, hw2⟩ : ∃ w2, (w4.alloc (.cells #[.string ⟨#[228]⟩] 9)).alloc (.cells #[codV 2] 59) = w2 := ⟨_, rfl⟩
  rw [hw2]
  have hs2 : w2.heap.size = n + 6 := by rw [← hw2]; simp [hs4]; omega
  have ht24 : Turns [] w4 w2 := hw2 ▸ (Turns.alloc [] w4 _).trans (Turns.alloc [] _ _)
  have hs : Boxed w2 Bs 9 (.string ⟨#[228]⟩) := by
    rw [← hw2]
    have := (Boxed.new w4 9 (.string ⟨#[228]⟩)).alloc (.cells #[codV 2] 59)
    rwa [show w4.heap.size = Bs by omega] at this
  have hc : Boxed w2 Bc 59 (.iface 77 (.agg #[.int .i64 255, .int .i64 0, .int .i64 0, .int .i64 0])) := by
    rw [← hw2]
    have := Boxed.new (w4.alloc (.cells #[.string ⟨#[228]⟩] 9)) 59 (codV 2)
    rw [World.size_alloc, show w4.heap.size + 1 = Bc by omega] at this
    exact this
  have hEn : Env w2 := HE.out.same fun k hk => (ht24.block k (by omega) (by simp)).trans (hb4.block k (by omega))
  have hPt : PtI n Bs Bc w2 ⟨#[228]⟩ (.iface 77 (.agg #[.int .i64 255, .int .i64 0, .int .i64 0, .int .i64 0])) := ⟨hs, hc, hEn, by omega⟩
  have hBw : BwI w n R1 R2 Bb base ⟨#[]⟩ 0 0 (.slice none 0 0) [] w2 := by
    refine ⟨turns_below (Turns.of_below hb4 []) ht24 (by simp), ?_, ?_, ?_, ?_, by simpa using World.ownsRow_nil _ _ _ _, by omega⟩
    · exact boxed_turns (by rw [← hn]; exact hx0) ht24 (by simp)
    · exact boxed_turns (by rw [← h1, ← hn]; exact hx1) ht24 (by simp)
    · exact boxed_turns (by rw [← h2, ← h1, ← hn]; exact hx2) ht24 (by simp)
    · exact boxed_turns (by rw [← h3, ← h2, ← h1, ← hn]; exact hx3) ht24 (by simp)
  have HPT := Lib.hid hPt
  have HBW := Lib.hid hBw
  have HNN : Hid (n = w.heap.size ∧ R1 = n + 1 ∧ R2 = n + 2 ∧ Bb = n + 3 ∧ base = n + 8 ∧ Bs = n + 4 ∧ Bc = n + 5 ∧ w2.heap.size = n + 6) := Lib.hid (by omega)
  have HBT : Hid (bt < n) := Lib.hid (by omega)
  clear h1 h2 h3 h4 h5 h6 hw2 hs2 ht24 hs hc hEn hPt hBw hx0 hx1 hx2 hx3 hn cf cf0 hb4 hs4 HB4 hw4 HHW PT hE hf ht hbf hbt hn4
  refine rangeT (α := Int × Int) rfl (by omega) (gf := 45) (lb := #[.pointer (some ⟨Bs, 0, none⟩), .pointer (some ⟨Bc, 0, none⟩)]) rfl trivial (enters_of Tryd.func45 (by kernel_rfl) rfl)
    (encs := yV) (Bs := []) (K := KP n Bs Bc) (S := fun ys => ys = ([(0, 228)] : List (Int × Int))) (Sp := fun pre => pre <+: ([(0, 228)] : List (Int × Int))) (V := fun pre x => pre ++ [x] <+: ([(0, 228)] : List (Int × Int))) (w0 := w2)
    (fun l J Jx W hW hJ _ hY h0 => iter1 (9 - 1) (by omega) l n Bs Bc J Jx hJ (fun pre x W1 h1 h2 => yield_one (hY pre x W1 h1 h2)) W (HPT.out.turned (Turns.of_below hW [])) h0)
    (fun b hb => by simp at hb)
    (fun k hk => by have := HNN.out; unfold KP at hk; omega)
    (Below.refl _ _) (fun _ => rfl)
    (fun pre W => (pre = [] ∧ ∃ sv, BwI w n R1 R2 Bb base ⟨#[]⟩ 0 0 sv [] W) ∨ (pre = [(0, 228)] ∧ ∃ sv, BwI w n R1 R2 Bb base ⟨#[]⟩ 0 0 sv [.int .u8 195, .int .u8 164] W))
    (fun c pre W => False ∧ ∃ sv xs, BwI w n R1 R2 Bb base ⟨#[]⟩ 1 7 sv xs W)
    ?bears ?bearx ?start
    (fun p _ => p.2 = { tmps := #[.string ⟨#[228]⟩, .pointer (some ⟨bf, 0, none⟩), .pointer (some ⟨bt, 0, none⟩), undef, .pointer (some ⟨n, 0, none⟩), .pointer (some ⟨R1, 0, none⟩), .pointer (some ⟨R2, 0, none⟩), .pointer (some ⟨Bb, 0, none⟩), .int .i64 p.1.1, .int .i64 p.1.2, undef, .int .i64 2, .string ⟨#[228]⟩, .func (.func 45) #[] #[.pointer (some ⟨Bs, 0, none⟩), .pointer (some ⟨Bc, 0, none⟩)], .int .i64 p.1.1, .int .i64 p.1.2, undef, undef, undef, undef, undef, undef, undef, undef, undef, undef, undef, undef, undef, undef, undef, undef, undef, undef], defers := [] })
    (fun _ _ _ h _ => h) ?assign ?body ?done ?stop
  case start => exact .inl ⟨rfl, _, HBW.out⟩
  case bears =>
    have hin : ∀ b ∈ w2.heap.size :: (w2.heap.size + 1) :: [], n + 4 ≤ b ∧ b < n + 8 := by
      intro b hb
      have := HNN.out
      simp at hb
      omega
    rintro pre A B hA ht
    rcases hA with ⟨h1, sv, h2⟩ | ⟨h1, sv, h2⟩
    · exact .inl ⟨h1, sv, h2.turned ht hin⟩
    · exact .inr ⟨h1, sv, h2.turned ht hin⟩
  case bearx =>
    have hin : ∀ b ∈ w2.heap.size :: (w2.heap.size + 1) :: [], n + 4 ≤ b ∧ b < n + 8 := by
      intro b hb
      have := HNN.out
      simp at hb
      omega
    rintro c pre A B hA ht
    obtain ⟨h1, sv, xs, h2⟩ := hA
    exact ⟨h1, sv, xs, h2.turned ht hin⟩
  case assign =>
    intro l pre x W k hi hlt hV hk
    unfold yV
    gi_wp2
    exact hk _ _ ⟨rfl, rfl⟩ (fun _ _ => rfl) hi rfl
  case body =>
    rintro l pre ⟨x1, x2⟩ a' W hi ha' hlt hV
    dsimp only at ha'
    subst ha'
    rcases hi with ⟨rfl, sv, hb⟩ | ⟨rfl, sv, hb⟩
    · obtain ⟨rfl, rfl⟩ : x1 = 0 ∧ x2 = 228 := by
        obtain ⟨t, ht⟩ := hV
        simp at ht
        exact ht.1
      have HB := Lib.hid hb
      have nn := HNN.out
      have cb := hb.b.cell
      have fb := hb.b.frozen
      have ct : W.cell? ⟨bt, 0, none⟩ = some (.iface 79 (.agg #[])) := (World.cell?_of_block (hb.t.block bt (by have := HBT.out; omega) (by simp))).trans HT.out.cell
      have PU := Lib.hid (put_e4 W base sv 0 [] hb.own (by omega) (by omega))
      obtain ⟨av, cv, rfl⟩ := own_form5 hb.own
      simp only [List.length_nil] at cb PU
      clear hb hV nn
      gi_wp2_with (refine ⟨by first | trivial | (intros; trivial), ?_⟩; gi_at_call 112; refine (callsIn_wide.2 PU.out).mono ?_; rintro e w3 ⟨v', rfl, hown, hgrow⟩; obtain ⟨a3, c3, rfl⟩ := own_form5 hown; have HO := Lib.hid hown; have HG := Lib.hid hgrow; have hb3 : Boxed w3 Bb 61 (.slice av 0 cv) := (HB.out.stays hgrow (by have := HNN.out; omega) HB.out.b.lt).trans HB.out.b; have cb3 := hb3.cell; have fb3 := hb3.frozen; clear hown hgrow hb3 cb fb ct)
      have hp := BwI.put (ys := [.int .u8 195, .int .u8 164]) HB.out HG.out HO.out
      have nn := HNN.out
      exact ⟨⟨hp.2 _ (by omega) (by omega) (by omega), hp.2 _ (by omega) (by omega) (by omega)⟩, fun k hk => hp.2 k (by unfold KP at hk; omega) (by unfold KP at hk; omega) (by unfold KP at hk; omega), .inr ⟨rfl, _, hp.1⟩⟩
    · obtain ⟨t, ht⟩ := hV
      simp at ht
  case done =>
    rintro xs W rfl hi hD
    rcases hi with ⟨h, _⟩ | ⟨_, sv, hb⟩
    · simp at h
    have HB := Lib.hid hb
    have nn := HNN.out
    have cb := hb.b.cell
    have c0 := hb.b0.cell
    have c1 := hb.b1.cell
    have c2 := hb.b2.cell
    have f0 := hb.b0.frozen
    have f1 := hb.b1.frozen
    have f2 := hb.b2.frozen
    have hcv := conv_own (s := ⟨#[195, 164]⟩) hb.own
    obtain ⟨av, cv, rfl⟩ := own_form5 hb.own
    simp only [List.length_cons, List.length_nil, Nat.zero_add, Nat.reduceAdd] at cb hcv
    have n01 : ¬ n = R1 := by omega
    have n02 : ¬ n = R2 := by omega
    have n12 : ¬ R1 = R2 := by omega
    have n0b : ¬ n = Bb := by omega
    have n10 : ¬ R1 = n := by omega
    have n20 : ¬ R2 = n := by omega
    have n21 : ¬ R2 = R1 := by omega
    clear hb nn
    gi_wp2
    have hB3 := ((HB.out.set0 ⟨#[195, 164]⟩).set1 0).set2 0
    have nn := HNN.out
    have hD3 : ((((W.setCell ⟨n, 0, none⟩ (.string ⟨#[195, 164]⟩)).setCell ⟨R1, 0, none⟩ (.int .i64 0)).setCell ⟨R2, 0, none⟩ (.int .i64 0))).heap[w2.heap.size]? = some (.deferred (some [])) :=
      (heap_setCell_other _ _ _ _ (by simp; omega)).trans ((heap_setCell_other _ _ _ _ (by simp; omega)).trans ((heap_setCell_other _ _ _ _ (by simp; omega)).trans hD))
    refine ⟨by simp, .inl ⟨_, _, rfl, run_takeDeferred hD3, ?_⟩⟩
    have ht := hB3.turned (Turns.putObj (Bs := [w2.heap.size]) (l := w2.heap.size) (by simp) _ (.deferred none)) (by intro b hb; simp at hb; omega)
    exact ⟨_, bw_results ht rfl rfl rfl, rfl, ht.below⟩
  case stop =>
    rintro c pre W _ ⟨h, _⟩ _
    exact h.elim

set_option maxRecDepth 100000 in
set_option maxHeartbeats 8000000 in
theorem between2 (w : World) (bf bt : Nat) (hE : Env w) (hf : Boxed w bf 3 (.int .i64 3)) (ht : Boxed w bt 59 (.iface 77 (.agg #[.int .i64 127, .int .i64 0, .int .i64 0, .int .i64 0]))) :
    Calls Tryd.prog 53 #[.string ⟨#[97, 195, 164]⟩, .pointer (some ⟨bf, 0, none⟩), .pointer (some ⟨bt, 0, none⟩)] w fun e w' => e = .returned (.tuple #[.string ⟨#[]⟩, .int .i64 1, .int .i64 7]) ∧ Below w.heap.size w w' := by
  have HE := Lib.hid hE
  have hbf := hf.lt
  have hbt := ht.lt
  have hm : ∀ w : World, (method 249 77 (.agg #[.int .i64 127, .int .i64 0, .int .i64 0, .int .i64 0]) "intermede/codeset.put").run Tryd.prog w = .ok (110, .agg #[.int .i64 127, .int .i64 0, .int .i64 0, .int .i64 0]) w := fun _ => by kernel_rfl
  have cf0 : ∀ W, Hid (Below w.heap.size w W → W.cell? ⟨bf, 0, none⟩ = some (.int .i64 3)) := fun W => Lib.hid fun hb => (hb.cell (p := ⟨bf, 0, none⟩) hbf).trans hf.cell
  have HT := Lib.hid ht
  obtain ⟨n, hn⟩ : ∃ n, w.heap.size = n := ⟨_, rfl⟩
  have hn4 := hE.four
  rw [hn] at hn4
  have HB4 : Hid (∀ o1 o2 o3 o4, Below w.heap.size w ((((w.alloc o1).alloc o2).alloc o3).alloc o4)) := Lib.hid fun o1 o2 o3 o4 => ((((Below.refl _ _).alloc (Nat.le_refl _) _).alloc (by simp) _).alloc (by simp; omega) _).alloc (by simp; omega) _
  obtain ⟨w4, hw4⟩ : ∃ w4, (((w.alloc (.cells #[.string ⟨#[]⟩] 9)).alloc (.cells #[.int .i64 0] 3)).alloc (.cells #[.int .i64 0] 24)).alloc (.cells #[.slice none 0 0] 61) = w4 := ⟨_, rfl⟩
  have hs4 : w4.heap.size = w.heap.size + 4 := by rw [← hw4]; simp
  have hb4 : Below w.heap.size w w4 := hw4 ▸ HB4.out _ _ _ _
  have hx0 : Boxed w4 w.heap.size 9 (.string ⟨#[]⟩) := hw4 ▸ (((Boxed.new w 9 _).alloc _).alloc _).alloc _
  have hx1 : Boxed w4 (w.heap.size + 1) 3 (.int .i64 0) := by
    rw [← hw4]
    have := ((Boxed.new (w.alloc (.cells #[.string ⟨#[]⟩] 9)) 3 (.int .i64 0)).alloc (.cells #[.int .i64 0] 24)).alloc (.cells #[.slice none 0 0] 61)
    rwa [World.size_alloc] at this
  have hx2 : Boxed w4 (w.heap.size + 2) 24 (.int .i64 0) := by
    rw [← hw4]
    have := (Boxed.new ((w.alloc (.cells #[.string ⟨#[]⟩] 9)).alloc (.cells #[.int .i64 0] 3)) 24 (.int .i64 0)).alloc (.cells #[.slice none 0 0] 61)
    rwa [World.size_alloc, World.size_alloc] at this
  have hx3 : Boxed w4 (w.heap.size + 3) 61 (.slice none 0 0) := by
    rw [← hw4]
    have := Boxed.new (((w.alloc (.cells #[.string ⟨#[]⟩] 9)).alloc (.cells #[.int .i64 0] 3)).alloc (.cells #[.int .i64 0] 24)) 61 (.slice none 0 0)
    rwa [World.size_alloc, World.size_alloc, World.size_alloc] at this
  have cf := (cf0 w4).out hb4
  have PT := Lib.hid (points_any 3 ⟨#[97, 195, 164]⟩ w4 (by omega))
  have HHW := Lib.hid hw4
  refine (callsIn_wide (n := 9)).1 ?_
  refine callsIn_of_wp_marks Tryd.func53 rfl trivial ?_ rfl
  simp only [Tryd.ntmps53, List.size_toArray, List.length_cons, List.length_nil, Nat.reduceAdd, Nat.reduceSub, Array.replicate_succ, Array.replicate_zero, List.push_toArray, List.append_toArray, List.nil_append, List.cons_append]
  gi_wp2_with (refine ⟨trivial, ?_⟩; gi_at_call 31; refine (callsIn_wide.2 PT.out).mono ?_; rintro e w2 ⟨rfl, rfl⟩)
  obtain ⟨R1, h1⟩ : ∃ R, n + 1 = R := ⟨_, rfl⟩
  obtain ⟨R2, h2⟩ : ∃ R, R1 + 1 = R := ⟨_, rfl⟩
  obtain ⟨Bb, h3⟩ : ∃ R, R2 + 1 = R := ⟨_, rfl⟩
  obtain ⟨Bs, h4⟩ : ∃ R, n + 4 = R := ⟨_, rfl⟩
  obtain ⟨Bc, h5⟩ : ∃ R, Bs + 1 = R := ⟨_, rfl⟩
  obtain ⟨base, h6⟩ : ∃ R, n + 8 = R := ⟨_, rfl⟩
  rw [h1, h2, h3, h4, h5]
  obtain ⟨w2, hw2⟩ : ∃ w2, (w4.alloc (.cells #[.string ⟨#[97, 195, 164]⟩] 9)).alloc (.cells #[codV 3] 59) = w2 := ⟨_, rfl⟩
  rw [hw2]
  have hs2 : w2.heap.size = n + 6 := by rw [← hw2]; simp [hs4]; omega
  have ht24 : Turns [] w4 w2 := hw2 ▸ (Turns.alloc [] w4 _).trans (Turns.alloc [] _ _)
  have hs : Boxed w2 Bs 9 (.string ⟨#[97, 195, 164]⟩) := by
    rw [← hw2]
    have := (Boxed.new w4 9 (.string ⟨#[97, 195, 164]⟩)).alloc (.cells #[codV 3] 59)
    rwa [show w4.heap.size = Bs by omega] at this
  have hc : Boxed w2 Bc 59 (.iface 79 (.agg #[])) := by
    rw [← hw2]
    have := Boxed.new (w4.alloc (.cells #[.string ⟨#[97, 195, 164]⟩] 9)) 59 (codV 3)
    rw [World.size_alloc, show w4.heap.size + 1 = Bc by omega] at this
    exact this
  have hEn : Env w2 := HE.out.same fun k hk => (ht24.block k (by omega) (by simp)).trans (hb4.block k (by omega))
  have hPt : PtI n Bs Bc w2 ⟨#[97, 195, 164]⟩ (.iface 79 (.agg #[])) := ⟨hs, hc, hEn, by omega⟩
  have hBw : BwI w n R1 R2 Bb base ⟨#[]⟩ 0 0 (.slice none 0 0) [] w2 := by
    refine ⟨turns_below (Turns.of_below hb4 []) ht24 (by simp), ?_, ?_, ?_, ?_, by simpa using World.ownsRow_nil _ _ _ _, by omega⟩
    · exact boxed_turns (by rw [← hn]; exact hx0) ht24 (by simp)
    · exact boxed_turns (by rw [← h1, ← hn]; exact hx1) ht24 (by simp)
    · exact boxed_turns (by rw [← h2, ← h1, ← hn]; exact hx2) ht24 (by simp)
    · exact boxed_turns (by rw [← h3, ← h2, ← h1, ← hn]; exact hx3) ht24 (by simp)
  have HPT := Lib.hid hPt
  have HBW := Lib.hid hBw
  have HNN : Hid (n = w.heap.size ∧ R1 = n + 1 ∧ R2 = n + 2 ∧ Bb = n + 3 ∧ base = n + 8 ∧ Bs = n + 4 ∧ Bc = n + 5 ∧ w2.heap.size = n + 6) := Lib.hid (by omega)
  have HBT : Hid (bt < n) := Lib.hid (by omega)
  clear h1 h2 h3 h4 h5 h6 hw2 hs2 ht24 hs hc hEn hPt hBw hx0 hx1 hx2 hx3 hn cf cf0 hb4 hs4 HB4 hw4 HHW PT hE hf ht hbf hbt hn4
  refine rangeT (α := Int × Int) rfl (by omega) (gf := 45) (lb := #[.pointer (some ⟨Bs, 0, none⟩), .pointer (some ⟨Bc, 0, none⟩)]) rfl trivial (enters_of Tryd.func45 (by kernel_rfl) rfl)
    (encs := yV) (Bs := []) (K := KP n Bs Bc) (S := fun ys => ys = ([(0, 97), (1, 228)] : List (Int × Int))) (Sp := fun pre => pre <+: ([(0, 97), (1, 228)] : List (Int × Int))) (V := fun pre x => pre ++ [x] <+: ([(0, 97), (1, 228)] : List (Int × Int))) (w0 := w2)
    (fun l J Jx W hW hJ _ hY h0 => iter3 (9 - 1) (by omega) l n Bs Bc J Jx hJ (fun pre x W1 h1 h2 => yield_one (hY pre x W1 h1 h2)) W (HPT.out.turned (Turns.of_below hW [])) h0)
    (fun b hb => by simp at hb)
    (fun k hk => by have := HNN.out; unfold KP at hk; omega)
    (Below.refl _ _) (fun _ => rfl)
    (fun pre W => (pre = [] ∧ ∃ sv, BwI w n R1 R2 Bb base ⟨#[]⟩ 0 0 sv [] W) ∨ (pre = [(0, 97)] ∧ ∃ sv, BwI w n R1 R2 Bb base ⟨#[]⟩ 0 0 sv [.int .u8 97] W))
    (fun c pre W => c = .ret ∧ ∃ sv xs, BwI w n R1 R2 Bb base ⟨#[]⟩ 1 7 sv xs W)
    ?bears ?bearx ?start
    (fun p _ => p.2 = { tmps := #[.string ⟨#[97, 195, 164]⟩, .pointer (some ⟨bf, 0, none⟩), .pointer (some ⟨bt, 0, none⟩), undef, .pointer (some ⟨n, 0, none⟩), .pointer (some ⟨R1, 0, none⟩), .pointer (some ⟨R2, 0, none⟩), .pointer (some ⟨Bb, 0, none⟩), .int .i64 p.1.1, .int .i64 p.1.2, undef, .int .i64 3, .string ⟨#[97, 195, 164]⟩, .func (.func 45) #[] #[.pointer (some ⟨Bs, 0, none⟩), .pointer (some ⟨Bc, 0, none⟩)], .int .i64 p.1.1, .int .i64 p.1.2, undef, undef, undef, undef, undef, undef, undef, undef, undef, undef, undef, undef, undef, undef, undef, undef, undef, undef], defers := [] })
    (fun _ _ _ h _ => h) ?assign ?body ?done ?stop
  case start => exact .inl ⟨rfl, _, HBW.out⟩
  case bears =>
    have hin : ∀ b ∈ w2.heap.size :: (w2.heap.size + 1) :: [], n + 4 ≤ b ∧ b < n + 8 := by
      intro b hb
      have := HNN.out
      simp at hb
      omega
    rintro pre A B hA ht
    rcases hA with ⟨h1, sv, h2⟩ | ⟨h1, sv, h2⟩
    · exact .inl ⟨h1, sv, h2.turned ht hin⟩
    · exact .inr ⟨h1, sv, h2.turned ht hin⟩
  case bearx =>
    have hin : ∀ b ∈ w2.heap.size :: (w2.heap.size + 1) :: [], n + 4 ≤ b ∧ b < n + 8 := by
      intro b hb
      have := HNN.out
      simp at hb
      omega
    rintro c pre A B hA ht
    obtain ⟨h1, sv, xs, h2⟩ := hA
    exact ⟨h1, sv, xs, h2.turned ht hin⟩
  case assign =>
    intro l pre x W k hi hlt hV hk
    unfold yV
    gi_wp2
    exact hk _ _ ⟨rfl, rfl⟩ (fun _ _ => rfl) hi rfl
  case body =>
    rintro l pre ⟨x1, x2⟩ a' W hi ha' hlt hV
    dsimp only at ha'
    subst ha'
    rcases hi with ⟨rfl, sv, hb⟩ | ⟨rfl, sv, hb⟩
    · obtain ⟨rfl, rfl⟩ : x1 = 0 ∧ x2 = 97 := by
        obtain ⟨t, ht⟩ := hV
        simp at ht
        exact ht.1
      have HB := Lib.hid hb
      have nn := HNN.out
      have cb := hb.b.cell
      have fb := hb.b.frozen
      have ct : W.cell? ⟨bt, 0, none⟩ = some (.iface 77 (.agg #[.int .i64 127, .int .i64 0, .int .i64 0, .int .i64 0])) := (World.cell?_of_block (hb.t.block bt (by have := HBT.out; omega) (by simp))).trans HT.out.cell
      have PU := Lib.hid (put_a W base sv 0 [] hb.own (by omega) (by omega))
      obtain ⟨av, cv, rfl⟩ := own_form5 hb.own
      simp only [List.length_nil] at cb PU
      clear hb hV nn
      gi_wp2_with (refine ⟨by first | trivial | (intros; trivial), ?_⟩; gi_at_call 110; refine (callsIn_wide.2 PU.out).mono ?_; rintro e w3 ⟨v', rfl, hown, hgrow⟩; obtain ⟨a3, c3, rfl⟩ := own_form5 hown; have HO := Lib.hid hown; have HG := Lib.hid hgrow; have hb3 : Boxed w3 Bb 61 (.slice av 0 cv) := (HB.out.stays hgrow (by have := HNN.out; omega) HB.out.b.lt).trans HB.out.b; have cb3 := hb3.cell; have fb3 := hb3.frozen; clear hown hgrow hb3 cb fb ct)
      have hp := BwI.put (ys := [.int .u8 97]) HB.out HG.out HO.out
      have nn := HNN.out
      exact ⟨⟨hp.2 _ (by omega) (by omega) (by omega), hp.2 _ (by omega) (by omega) (by omega)⟩, fun k hk => hp.2 k (by unfold KP at hk; omega) (by unfold KP at hk; omega) (by unfold KP at hk; omega), .inr ⟨rfl, _, hp.1⟩⟩
    · obtain ⟨rfl, rfl⟩ : x1 = 1 ∧ x2 = 228 := by
        obtain ⟨t, ht⟩ := hV
        simp at ht
        exact ht.1
      have HB := Lib.hid hb
      have nn := HNN.out
      have cb := hb.b.cell
      have ct : W.cell? ⟨bt, 0, none⟩ = some (.iface 77 (.agg #[.int .i64 127, .int .i64 0, .int .i64 0, .int .i64 0])) := (World.cell?_of_block (hb.t.block bt (by have := HBT.out; omega) (by simp))).trans HT.out.cell
      obtain ⟨av, cv, rfl⟩ := own_form5 hb.own
      have PU := Lib.hid (put_no W (.slice av 1 cv))
      have HS : Hid (∀ w3, Below W.heap.size W w3 → BwI w n R1 R2 Bb base ⟨#[]⟩ 0 0 (.slice av 1 cv) [.int .u8 97] w3) := Lib.hid fun w3 h3 => HB.out.turned (Turns.of_below h3 []) (by simp)
      simp only [List.length_cons, List.length_nil, Nat.zero_add] at cb
      clear hb hV nn
      gi_wp2_with fail
      refine ⟨trivial, ?_⟩
      refine (callsIn_wide.2 PU.out).mono ?_
      rintro e w3 ⟨rfl, hb3⟩
      have HS3 := Lib.hid (HS.out w3 hb3)
      have HB3 := Lib.hid hb3
      have q0 := HS3.out.b0.cell
      have q1 := HS3.out.b1.cell
      have q2 := HS3.out.b2.cell
      have q3 := HS3.out.b.cell
      have p0 := HS3.out.b0.frozen
      have p1 := HS3.out.b1.frozen
      have p2 := HS3.out.b2.frozen
      have p3 := HS3.out.b.frozen
      have nn := HNN.out
      have n01 : ¬ n = R1 := by omega
      have n02 : ¬ n = R2 := by omega
      have n12 : ¬ R1 = R2 := by omega
      have n0b : ¬ n = Bb := by omega
      have n1b : ¬ R1 = Bb := by omega
      have n2b : ¬ R2 = Bb := by omega
      have n10 : ¬ R1 = n := by omega
      have n20 : ¬ R2 = n := by omega
      have n21 : ¬ R2 = R1 := by omega
      clear hb3 cb ct nn
      gi_wp2
      have hp := BwI.put (ys := []) HS3.out (W' := w3) (World.grownBy.refl _ _) (by have := HS3.out.own; exact this)
      have nn := HNN.out
      have e : ∀ k, n + 6 ≤ k → k < n + 8 → k < W.heap.size → ((((w3.setCell ⟨Bb, 0, none⟩ (.slice av 1 cv)).setCell ⟨n, 0, none⟩ (.string ⟨#[]⟩)).setCell ⟨R1, 0, none⟩ (.int .i64 1)).setCell ⟨R2, 0, none⟩ (.int .i64 7)).heap[k]? = W.heap[k]? := fun k h1 h2 h3 =>
        (heap_setCell_other _ _ _ _ (by simp; omega)).trans ((heap_setCell_other _ _ _ _ (by simp; omega)).trans ((heap_setCell_other _ _ _ _ (by simp; omega)).trans ((heap_setCell_other _ _ _ _ (by simp; omega)).trans (HB3.out.block k h3))))
      exact ⟨⟨e _ (by omega) (by omega) (by omega), e _ (by omega) (by omega) (by omega)⟩, rfl, _, _, ((hp.1.set0 ⟨#[]⟩).set1 1).set2 7⟩
  case done =>
    rintro xs W rfl hi hD
    rcases hi with ⟨h, _⟩ | ⟨h, _⟩
    · simp at h
    · simp at h
  case stop =>
    rintro c pre W _ ⟨rfl, sv, xs, hb⟩ hD
    have HB := Lib.hid hb
    clear hb
    gi_wp2
    have hB3 := HB.out
    have nn := HNN.out
    refine ⟨by simp, .inl ⟨_, _, rfl, run_takeDeferred hD, ?_⟩⟩
    have ht := hB3.turned (Turns.putObj (Bs := [w2.heap.size]) (l := w2.heap.size) (by simp) _ (.deferred none)) (by intro b hb; simp at hb; omega)
    exact ⟨_, bw_results ht rfl rfl rfl, rfl, ht.below⟩

end Go.Proofs.YtnebjdjebnphnaaDoor
