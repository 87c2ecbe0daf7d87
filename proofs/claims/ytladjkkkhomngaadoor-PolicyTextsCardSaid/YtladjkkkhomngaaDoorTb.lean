/- Two rows as one, by their kinds; the iterator policy.merged: its contract for whatever body. -/
import Derived.Test.YtladjkkkhomngaaDoorTa
import Derived.Test.YtladjkkkhomngaaDoorR
import Derived.RangeFuncBound
import Derived.Shelf.Abstract
import Derived.Shelf.RegionOpen
import Derived.OwnWalkIn
import Derived.TacticsInMore
import Derived.LoopNIn
import Derived.LoopIn
import Derived.RegionTactic
namespace Go.Proofs.YtladjkkkhomngaaDoor
set_option maxRecDepth 8000
open Go.RowKit Go.Sort Go.Shelf
attribute [local go_sem] Oper.semAt_some

/-- One step of going through two rows: what is taken, what is left of both. -/
def mrgStep : List PolD → List PolD → Option (PolD × List PolD × List PolD)
  | [], [] => none
  | p :: r, [] => some (p, r, [])
  | [], q :: t => some (q, [], t)
  | p :: r, q :: t => if p.k < q.k then some (p, r, q :: t) else if p.k = q.k then some (q, r, t) else some (q, p :: r, t)
/-- Two rows as one, at most n of them. -/
def mrgN : Nat → List PolD → List PolD → List PolD
  | 0, _, _ => []
  | n + 1, s, o => match mrgStep s o with
    | none => []
    | some (x, s', o') => x :: mrgN n s' o'
def mrg (s o : List PolD) : List PolD := mrgN (s.length + o.length) s o

theorem mrgStep_less {s o s' o' : List PolD} {x : PolD} (h : mrgStep s o = some (x, s', o')) : s'.length + o'.length < s.length + o.length := by
  match s, o, h with
  | p :: r, [], h => simp [mrgStep] at h; obtain ⟨rfl, rfl, rfl⟩ := h; simp
  | [], q :: t, h => simp [mrgStep] at h; obtain ⟨rfl, rfl, rfl⟩ := h; simp
  | p :: r, q :: t, h =>
    simp only [mrgStep] at h
    split at h
    · simp at h; obtain ⟨rfl, rfl, rfl⟩ := h; simp
    · split at h
      · simp at h; obtain ⟨rfl, rfl, rfl⟩ := h; simp only [List.length_cons]; omega
      · simp at h; obtain ⟨rfl, rfl, rfl⟩ := h; simp only [List.length_cons]; omega
theorem mrgN_enough : ∀ (n m : Nat) (s o : List PolD), s.length + o.length ≤ n → s.length + o.length ≤ m → mrgN n s o = mrgN m s o
  | 0, 0, _, _, _, _ => rfl
  | 0, m + 1, s, o, h, _ => by
    have h1 : s = [] := List.eq_nil_of_length_eq_zero (by omega)
    have h2 : o = [] := List.eq_nil_of_length_eq_zero (by omega)
    subst h1 h2
    rfl
  | n + 1, 0, s, o, _, h => by
    have h1 : s = [] := List.eq_nil_of_length_eq_zero (by omega)
    have h2 : o = [] := List.eq_nil_of_length_eq_zero (by omega)
    subst h1 h2
    rfl
  | n + 1, m + 1, s, o, h1, h2 => by
    simp only [mrgN]
    cases hs : mrgStep s o with
    | none => rfl
    | some y =>
      obtain ⟨x, s', o'⟩ := y
      have := mrgStep_less hs
      simp only
      rw [mrgN_enough n m s' o' (by omega) (by omega)]
theorem mrg_step {s o s' o' : List PolD} {x : PolD} (h : mrgStep s o = some (x, s', o')) : mrg s o = x :: mrg s' o' := by
  have hl := mrgStep_less h
  obtain ⟨n, hn⟩ : ∃ n, s.length + o.length = n + 1 := ⟨s.length + o.length - 1, by omega⟩
  unfold mrg
  rw [hn]
  simp only [mrgN, h]
  rw [mrgN_enough n _ s' o' (by omega) (Nat.le_refl _)]
theorem mrg_length (s o : List PolD) : (mrg s o).length ≤ s.length + o.length := by
  unfold mrg
  generalize s.length + o.length = n
  induction n generalizing s o with
  | zero => simp [mrgN]
  | succ n ih =>
    simp only [mrgN]
    split
    · simp
    · rename_i x s' o' _
      have := ih s' o'
      simp only [List.length_cons]
      omega

/-- A row in a block below a bound. -/
def RowLt (n0 : Nat) (W : World) (ao : Option Addr) (l : List PolD) : Prop := l = [] ∨ ∃ b off, ao = some ⟨b, off, none⟩ ∧ b < n0 ∧ PolsAt W b off l
/-- A slice of policies in a block below a bound. -/
def SlLt (n0 : Nat) (W : World) (v : Value) (l : List PolD) : Prop := ∃ ao cap, v = .slice ao l.length cap ∧ l.length ≤ cap ∧ RowLt n0 W ao l

theorem SlLt.kept {n0 : Nat} {W W' : World} {v : Value} {l : List PolD} (h : SlLt n0 W v l) (hk : ∀ k, k < n0 → W'.heap[k]? = W.heap[k]?) : SlLt n0 W' v l := by
  obtain ⟨ao, cap, hv, hc, h0 | ⟨b, off, ha, hb, hp⟩⟩ := h
  · exact ⟨ao, cap, hv, hc, .inl h0⟩
  · refine ⟨ao, cap, hv, hc, .inr ⟨b, off, ha, hb, fun i hi => ?_⟩⟩
    have e : ∀ o, W'.cell? ⟨b, o, none⟩ = W.cell? ⟨b, o, none⟩ := fun o => by simp only [World.cell?, hk b hb]
    rw [e, e]
    exact hp i hi

theorem pol_f {W : World} {b : Nat} {k v : Int} (h : W.heap[b]? = some (polO k v)) (i : Nat) : W.frozen? ⟨b, i, none⟩ = false := by simp [World.frozen?, h, polO]

/-- What a round must keep: the blocks below a bound, and the two boxes. -/
def KM (n0 B1 B2 k : Nat) : Prop := k < n0 ∨ k = B1 ∨ k = B2

theorem merged_in (n : Nat) (a1 a2 : Option Addr) (n1 n2 c1 c2 : Nat) (w : World) :
    CallsIn Fence.wide n Tryd.prog 68 #[.slice a1 n1 c1, .slice a2 n2 c2] w fun e w' => e = .returned (.func (.func 97) #[] #[.pointer (some ⟨w.heap.size, 0, none⟩), .pointer (some ⟨w.heap.size + 1, 0, none⟩)]) ∧
      w' = (w.alloc (.cells #[.slice a1 n1 c1] 22)).alloc (.cells #[.slice a2 n2 c2] 22) := by
  refine callsIn_of_wp Tryd.func68 rfl trivial ?_ rfl
  simp only [Tryd.ntmps68, List.size_toArray, List.length_cons, List.length_nil, Nat.reduceAdd, Nat.reduceSub, Array.replicate_succ, Array.replicate_zero, List.push_toArray, List.append_toArray, List.nil_append, List.cons_append]
  gi_wp2
  go_ret
  exact ⟨rfl, rfl⟩

/-- The state of the iterator between two rounds. -/
structure MgI (n0 B1 B2 : Nat) (W : World) (sl ol : List PolD) : Prop where
  s : ∃ sv, Boxed W B1 22 sv ∧ SlLt n0 W sv sl
  o : ∃ ov, Boxed W B2 22 ov ∧ SlLt n0 W ov ol

theorem grownBy_cell (W : World) (a : Addr) (v : Value) : W.grownBy (W.setCell a v) (some a.block) := by
  exact ⟨rfl, rfl, rfl, by simp [World.setCell], fun k _ hk => Below.heap_setCell _ _ _ k (fun e => hk (by rw [e]))⟩
theorem Turns.drewN {Bs : List Nat} {A B : World} (h : Turns Bs A B) (m : Nat) : Turns Bs A (B.drewN m) := ⟨h.os, h.tape, h.output, h.size, h.block⟩
theorem Turns.set {Bs : List Nat} {A B : World} (h : Turns Bs A B) (b i : Nat) (v : Value) (hb : b ∈ Bs ∨ A.heap.size ≤ b) : Turns Bs A (B.setCell ⟨b, i, none⟩ v) := by
  have g := grownBy_cell B ⟨b, i, none⟩ v
  refine ⟨g.os.trans h.os, g.tape.trans h.tape, g.output.trans h.output, Nat.le_trans h.size g.size, fun k hk hn => (g.block k (Nat.lt_of_lt_of_le hk h.size) (fun e => ?_)).trans (h.block k hk hn)⟩
  have e : k = b := Option.some.inj e
  rcases hb with h1 | h1
  · exact hn (e ▸ h1)
  · omega
theorem Boxed.turned {W W' : World} {B : Nat} {t : TypeId} {v : Value} (h : Boxed W B t v) (hk : W'.heap[B]? = W.heap[B]?) : Boxed W' B t v := hk.trans h
theorem Boxed.cell_other {W : World} {B : Nat} {t : TypeId} {v : Value} (h : Boxed W B t v) (b i : Nat) (u : Value) (hne : B ≠ b) : Boxed (W.setCell ⟨b, i, none⟩ u) B t v := h.kept (grownBy_cell W ⟨b, i, none⟩ u) (fun e => hne (Option.some.inj e))

/-- The element is stored: a block of its own, made since. -/
theorem took {wr w1 : World} {B1 B2 : Nat} {v1 v2 : Value} (A : Below wr.heap.size wr w1) (h1 : Boxed wr B1 22 v1) (h2 : Boxed wr B2 22 v2) (m : Nat) (x y : Value) (Bs : List Nat) :
    Turns Bs wr (((w1.drewN m).setCell ⟨wr.heap.size, 0, none⟩ x).setCell ⟨wr.heap.size, 1, none⟩ y) ∧ Boxed (((w1.drewN m).setCell ⟨wr.heap.size, 0, none⟩ x).setCell ⟨wr.heap.size, 1, none⟩ y) B1 22 v1 ∧ Boxed (((w1.drewN m).setCell ⟨wr.heap.size, 0, none⟩ x).setCell ⟨wr.heap.size, 1, none⟩ y) B2 22 v2 := by
  have l1 := h1.lt
  have l2 := h2.lt
  have a1 : Boxed (w1.drewN m) B1 22 v1 := (A.block B1 l1).trans h1
  have a2 : Boxed (w1.drewN m) B2 22 v2 := (A.block B2 l2).trans h2
  exact ⟨(((Turns.of_below A Bs).drewN m).set _ _ _ (.inr (Nat.le_refl _))).set _ _ _ (.inr (Nat.le_refl _)), Boxed.cell_other (Boxed.cell_other a1 _ _ _ (by omega)) _ _ _ (by omega), Boxed.cell_other (Boxed.cell_other a2 _ _ _ (by omega)) _ _ _ (by omega)⟩

theorem SlLt.turned {n0 B1 B2 : Nat} {W W' : World} {v : Value} {l : List PolD} (h : SlLt n0 W v l) (hT : Turns [B1, B2] W W') (h1 : n0 ≤ B1) (h2 : n0 ≤ B2) (hl : n0 ≤ W.heap.size) : SlLt n0 W' v l :=
  h.kept fun k hk => hT.block k (Nat.lt_of_lt_of_le hk hl) (by simp; omega)
theorem MgI.kept {n0 B1 B2 : Nat} {W W' : World} {sl ol : List PolD} (h : MgI n0 B1 B2 W sl ol) (hk : Kept (KM n0 B1 B2) W W') : MgI n0 B1 B2 W' sl ol := by
  obtain ⟨⟨sv, s1, s2⟩, ⟨ov, o1, o2⟩⟩ := h
  exact ⟨⟨sv, (hk B1 (.inr (.inl rfl))).trans s1, s2.kept fun k h => hk k (.inl h)⟩, ⟨ov, (hk B2 (.inr (.inr rfl))).trans o1, o2.kept fun k h => hk k (.inl h)⟩⟩
/-- A row without its first policy. -/
theorem SlLt.tail {n0 : Nat} {W : World} {b off c : Nat} {p : PolD} {r : List PolD} (hb : b < n0) (hp : PolsAt W b off (p :: r)) (hc : r.length ≤ c) : SlLt n0 W (.slice (some ⟨b, off + 2, none⟩) r.length c) r :=
  ⟨_, _, rfl, hc, .inr ⟨b, off + 2, rfl, hb, fun i hi => by
    have h := hp (i + 1) (by simp; omega)
    simp only [List.getElem_cons_succ] at h
    rw [show off + 2 + i * 2 = off + (i + 1) * 2 by omega]
    exact h⟩⟩
/-- The slice expression that leaves the first element out. -/
theorem cut_head (b off m c : Nat) : ∃ ad, (∀ w, (Instr.slice 22 (.slice (some ⟨b, off, none⟩) (m + 1) (c + 1)) (some (.int .i64 1)) none none).run Tryd.prog w = .ok (.slice ad m c) w) ∧ (c ≠ 0 → ad = some ⟨b, off + 2, none⟩) := by
  refine ⟨if c + 1 = 1 then some ⟨b, off, none⟩ else some ⟨b, off + 2, none⟩, fun w => ?_, fun h => by rw [if_neg (by omega)]⟩
  obtain ⟨i0, hi, _, _, _⟩ := info_parts Tryd.info46
  rw [run_slice_l w 22 _ _ _ (by kernel_rfl) _ _ (by omega) (by omega)]
  rw [show Tryd.prog.elem 22 = 24 by kernel_rfl, run_sizeOf w hi, show Tryd.prog.cellsOf 24 = 2 by kernel_rfl]
  simp only [Result.andThen_ok, sliced]
  by_cases h : c + 1 = 1
  · rw [if_pos h, if_pos (by simpa using h)]
    simp
  · rw [if_neg h, if_neg (by simpa using h)]
    simp [Addr.add]
theorem SlLt.cut {n0 : Nat} {W : World} {b off c : Nat} {ad : Option Addr} {p : PolD} {r : List PolD} (hb : b < n0) (hp : PolsAt W b off (p :: r)) (hc : r.length ≤ c) (ha : c ≠ 0 → ad = some ⟨b, off + 2, none⟩) : SlLt n0 W (.slice ad r.length c) r := by
  by_cases h : c = 0
  · subst h
    obtain rfl : r = [] := List.eq_nil_of_length_eq_zero (by omega)
    exact ⟨ad, 0, rfl, Nat.zero_le _, .inl rfl⟩
  · rw [ha h]
    exact SlLt.tail hb hp hc
theorem SlLt.none {n0 : Nat} {W : World} (ao : Option Addr) (c : Nat) : SlLt n0 W (.slice ao 0 c) [] := ⟨ao, c, rfl, Nat.zero_le _, .inl rfl⟩

/-- How much is left, off the boxes. -/
def lenBox (W : World) (B : Nat) : Nat := match W.cell? ⟨B, 0, none⟩ with
  | some (.slice _ n _) => n
  | _ => 0
theorem lenBox_of {W : World} {B n c : Nat} {a : Option Addr} (h : Boxed W B 22 (.slice a n c)) : lenBox W B = n := by
  unfold lenBox
  rw [h.cell]
theorem MgI.len {n0 B1 B2 : Nat} {W : World} {sl ol : List PolD} (h : MgI n0 B1 B2 W sl ol) : lenBox W B1 + lenBox W B2 = sl.length + ol.length := by
  obtain ⟨⟨sv, s1, a1, c1, rfl, _⟩, ⟨ov, o1, a2, c2, rfl, _⟩⟩ := h
  rw [lenBox_of s1, lenBox_of o1]

set_option maxRecDepth 100000 in
set_option maxHeartbeats 16000000 in
theorem merged1_in (n : Nat) (hn : 1 ≤ n) (l n0 B1 B2 : Nat) (h01 : n0 ≤ B1) (h12 : B1 < B2) (s o : List PolD) (hsl : s.length ≤ 1000000) (hol : o.length ≤ 1000000) (J Jx : List PolD → World → Prop)
    (hJ : Bears [B1, B2] J)
    (hY : ∀ pre x W, J pre W → pre.length < (mrg s o).length → YieldAt Fence.wide (n - 1) Tryd.prog l #[.agg #[.int .i64 x.k, .int .i64 x.v]] W fun e W' =>
      (e = .returned (.bool true) ∧ J (pre ++ [x]) W' ∧ Kept (KM n0 B1 B2) W W') ∨ (e = .returned (.bool false) ∧ Jx (pre ++ [x]) W'))
    (W : World) (hM : MgI n0 B1 B2 W s o) (h0 : J [] W) :
    CallsIn Fence.wide n Tryd.prog 97 #[.func (.yield l) #[] #[], .pointer (some ⟨B1, 0, none⟩), .pointer (some ⟨B2, 0, none⟩)] W fun e W' => (∃ v, e = .returned v) ∧
      ((∃ ys, ys = mrg s o ∧ J ys W') ∨ (∃ pre, pre <+: mrg s o ∧ Jx pre W')) := by
  have HM := Lib.hid hM
  have HJJ := Lib.hid hJ
  have HY := Lib.hid hY
  clear hM hJ hY
  refine callsIn_of_wp Tryd.func97 rfl trivial ?_ rfl
  simp only [Tryd.ntmps97, List.size_toArray, List.length_cons, List.length_nil, Nat.reduceAdd, Nat.reduceSub, Array.replicate_succ, Array.replicate_zero, List.push_toArray, List.append_toArray, List.nil_append, List.cons_append]
  gi_wp2
  gi_loopw [5] (fun _ wr => ∃ pre sl ol, J pre wr ∧ MgI n0 B1 B2 wr sl ol ∧ pre ++ mrg sl ol = mrg s o ∧ sl.length ≤ s.length ∧ ol.length ≤ o.length)
    (fun _ wr => lenBox wr B1 + lenBox wr B2)
  case atStart => exact ⟨[], s, o, h0, HM.out, rfl, Nat.le_refl _, Nat.le_refl _⟩
  case round =>
    obtain ⟨pre, sl, ol, hJp, hMg, hpre, hls, hlo⟩ := hrel
    have HJ := Lib.hid hJp
    have HP := Lib.hid hpre
    have HLS := Lib.hid hls
    have HLO := Lib.hid hlo
    have HLEN := Lib.hid hMg.len
    clear hJp hpre hls hlo
    obtain ⟨⟨sv, hb1, a1, cap1, rfl, hc1, hr1⟩, ⟨ov, hb2, a2, cap2, rfl, hc2, hr2⟩⟩ := hMg
    have c1 := hb1.cell
    have c2 := hb2.cell
    have lt1 := hb1.lt
    have lt2 := hb2.lt
    have HB1 := Lib.hid hb1
    have HB2 := Lib.hid hb2
    have HS1 : Hid (SlLt n0 wr (.slice a1 sl.length cap1) sl) := Lib.hid ⟨a1, cap1, rfl, hc1, hr1⟩
    have HS2 : Hid (SlLt n0 wr (.slice a2 ol.length cap2) ol) := Lib.hid ⟨a2, cap2, rfl, hc2, hr2⟩
    have HST : Hid (∀ x s' o', mrgStep sl ol = some (x, s', o') → pre ++ [x] ++ mrg s' o' = mrg s o ∧ pre.length < (mrg s o).length) := Lib.hid fun x s' o' h => by
      have e := mrg_step h
      have hp := HP.out
      rw [e] at hp
      refine ⟨by rw [← hp]; simp, by rw [← hp]; simp⟩
    clear hb1 hb2
    cases sl with
    | nil =>
      cases ol with
      | nil =>
        clear lt1 lt2 hc1 hc2
        gi_wp2
        go_end0
        exact ⟨⟨_, rfl⟩, .inl ⟨_, by rw [← HP.out]; simp [mrg, mrgN], HJ.out⟩⟩
      | cons q t =>
        rcases hr2 with h | ⟨b2, off2, rfl, hlb2, hp2⟩
        · cases h
        obtain ⟨q0, q1⟩ := hp2 0 (by simp)
        simp only [List.getElem_cons_zero, Nat.zero_mul, Nat.add_zero] at q0 q1
        obtain ⟨dd, rfl⟩ : ∃ dd, cap2 = dd + 1 := ⟨cap2 - 1, by simp at hc2; omega⟩
        have HC2 : Hid (t.length ≤ dd) := Lib.hid (by simp at hc2; omega)
        have HPP2 := Lib.hid hp2
        have nb2 : ¬ b2 = wr.heap.size := by omega
        have g2b : (t.length : Int) ≤ 1000000 := by have := HLO.out; simp at this; omega
        have g20 : (0 : Int) < (t.length : Int) + 1 := by omega
        have g21 : ¬ (t.length : Int) + 1 ≤ 0 := by omega
        have g22 : (1 : Int) ≤ (t.length : Int) + 1 := by omega
        have g23 : ((t.length : Int) + 1 == 0) = false := by simp; omega
        clear hc2 hp2
        obtain ⟨ad2, sl2, ha2⟩ := cut_head b2 off2 t.length dd
        have HA2 := Lib.hid ha2
        clear ha2
        gi_wp2
        obtain ⟨w1, hw1⟩ : ∃ w1, wr.alloc (polO 0 0) = w1 := ⟨_, rfl⟩
        have A : Hid (Below wr.heap.size wr w1) := Lib.hid (hw1 ▸ (Below.refl wr.heap.size wr).alloc (Nat.le_refl _) (polO 0 0))
        rw [show wr.alloc (Obj.cells #[Value.int IntKind.i64 0, Value.int IntKind.i64 0] 24) = w1 from hw1]
        have c1 := (A.out.cell (p := ⟨B1, 0, none⟩) lt1).trans c1
        have c2 := (A.out.cell (p := ⟨B2, 0, none⟩) lt2).trans c2
        have q0 := (A.out.cell (p := ⟨b2, off2, none⟩) (Nat.lt_of_lt_of_le hlb2 (by omega))).trans q0
        have q1 := (A.out.cell (p := ⟨b2, off2 + 1, none⟩) (Nat.lt_of_lt_of_le hlb2 (by omega))).trans q1
        have d0 : w1.cell? ⟨wr.heap.size, 0, none⟩ = some (.int .i64 0) := hw1 ▸ polO_c0 0 0 wr
        have d1 : w1.cell? ⟨wr.heap.size, 1, none⟩ = some (.int .i64 0) := hw1 ▸ polO_c1 0 0 wr
        have f0 : w1.frozen? ⟨wr.heap.size, 0, none⟩ = false := hw1 ▸ pol_f (heap_alloc_new _ _) 0
        have f2 : w1.frozen? ⟨wr.heap.size, 1, none⟩ = false := hw1 ▸ pol_f (heap_alloc_new _ _) 1
        have fB1 : w1.frozen? ⟨B1, 0, none⟩ = false := by simp [World.frozen?, (A.out.block B1 lt1).trans HB1.out]
        have fB2 : w1.frozen? ⟨B2, 0, none⟩ = false := by simp [World.frozen?, (A.out.block B2 lt2).trans HB2.out]
        have nB1 : ¬ B1 = wr.heap.size := by omega
        have nB1r : ¬ wr.heap.size = B1 := by omega
        have nB2 : ¬ B2 = wr.heap.size := by omega
        have nB2r : ¬ wr.heap.size = B2 := by omega
        have nBB : ¬ B1 = B2 := by omega
        have nBBr : ¬ B2 = B1 := by omega
        clear hw1
        refine wpIn_wide.2 ?_
        go_quiet (fail)
        rename Nat => n1
        gi_wp2
        refine wpIn_wide.2 ?_
        go_quiet (fail)
        rename Nat => n2
        gi_wp2
        refine wpIn_wide.2 ?_
        go_region
        gi_wp2
        obtain ⟨T0, x1, x2⟩ := took A.out HB1.out HB2.out (n1 + n2 + 1) (Value.int .i64 q.k) (Value.int .i64 q.v) [B1, B2]
        have T4 := T0.set B2 0 (.slice ad2 t.length dd) (.inl (by simp))
        have y1 := Boxed.cell_other x1 B2 0 (.slice ad2 t.length dd) nBB
        have y2 := Boxed.set (.slice ad2 t.length dd) x2
        have z1 : SlLt n0 wr _ [] := HS1.out
        have z2 : SlLt n0 wr _ t := SlLt.cut hlb2 HPP2.out HC2.out HA2.out
        have hM4 : MgI n0 B1 B2 _ [] t := ⟨⟨_, y1, z1.turned T4 h01 (by omega) (by omega)⟩, ⟨_, y2, z2.turned T4 h01 (by omega) (by omega)⟩⟩
        have hJ4 := HJJ.out _ _ _ HJ.out T4
        obtain ⟨e4, l4⟩ := HST.out q [] t (by simp [mrgStep])
        obtain ⟨fn, tmps, assign, body, hy, hR⟩ := HY.out pre q _ hJ4 l4
        have HM4 := Lib.hid hM4
        have E4 := Lib.hid e4
        clear T0 x1 x2 T4 y1 y2 z1 z2 hM4 hJ4 e4 l4
        rw [hy]
        refine ⟨fun _ => hn, hR.mono ?_⟩
        rintro e W5 (⟨rfl, hJ5, hk5⟩ | ⟨rfl, hJx5⟩)
        · gi_wp2
          have hM5 := HM4.out.kept hk5
          go_roundw
          case rel => exact ⟨pre ++ [q], [], t, hJ5, hM5, E4.out, by have := HLS.out; (try simp only [List.length_cons] at this ⊢); omega, by have := HLO.out; (try simp only [List.length_cons] at this ⊢); omega⟩
          case measure => rw [HLEN.out, hM5.len]; simp; try omega
        · gi_wp2
          refine bodyPost_ret (results_none rfl _ _ _) rfl ?_
          exact ⟨⟨_, rfl⟩, .inr ⟨_, ⟨_, E4.out⟩, hJx5⟩⟩
    | cons p r =>
      cases ol with
      | nil =>
        rcases hr1 with h | ⟨b1, off1, rfl, hlb1, hp1⟩
        · cases h
        obtain ⟨k0, k1⟩ := hp1 0 (by simp)
        simp only [List.getElem_cons_zero, Nat.zero_mul, Nat.add_zero] at k0 k1
        obtain ⟨cc, rfl⟩ : ∃ cc, cap1 = cc + 1 := ⟨cap1 - 1, by simp at hc1; omega⟩
        have HC1 : Hid (r.length ≤ cc) := Lib.hid (by simp at hc1; omega)
        have HPP1 := Lib.hid hp1
        have nb1 : ¬ b1 = wr.heap.size := by omega
        have g1b : (r.length : Int) ≤ 1000000 := by have := HLS.out; simp at this; omega
        have g10 : (0 : Int) < (r.length : Int) + 1 := by omega
        have g11 : ¬ (r.length : Int) + 1 ≤ 0 := by omega
        have g12 : (1 : Int) ≤ (r.length : Int) + 1 := by omega
        have g13 : ((r.length : Int) + 1 == 0) = false := by simp; omega
        clear hc1 hp1
        obtain ⟨ad1, sl1, ha1⟩ := cut_head b1 off1 r.length cc
        have HA1 := Lib.hid ha1
        clear ha1
        gi_wp2
        obtain ⟨w1, hw1⟩ : ∃ w1, wr.alloc (polO 0 0) = w1 := ⟨_, rfl⟩
        have A : Hid (Below wr.heap.size wr w1) := Lib.hid (hw1 ▸ (Below.refl wr.heap.size wr).alloc (Nat.le_refl _) (polO 0 0))
        rw [show wr.alloc (Obj.cells #[Value.int IntKind.i64 0, Value.int IntKind.i64 0] 24) = w1 from hw1]
        have c1 := (A.out.cell (p := ⟨B1, 0, none⟩) lt1).trans c1
        have c2 := (A.out.cell (p := ⟨B2, 0, none⟩) lt2).trans c2
        have k0 := (A.out.cell (p := ⟨b1, off1, none⟩) (Nat.lt_of_lt_of_le hlb1 (by omega))).trans k0
        have k1 := (A.out.cell (p := ⟨b1, off1 + 1, none⟩) (Nat.lt_of_lt_of_le hlb1 (by omega))).trans k1
        have d0 : w1.cell? ⟨wr.heap.size, 0, none⟩ = some (.int .i64 0) := hw1 ▸ polO_c0 0 0 wr
        have d1 : w1.cell? ⟨wr.heap.size, 1, none⟩ = some (.int .i64 0) := hw1 ▸ polO_c1 0 0 wr
        have f0 : w1.frozen? ⟨wr.heap.size, 0, none⟩ = false := hw1 ▸ pol_f (heap_alloc_new _ _) 0
        have f2 : w1.frozen? ⟨wr.heap.size, 1, none⟩ = false := hw1 ▸ pol_f (heap_alloc_new _ _) 1
        have fB1 : w1.frozen? ⟨B1, 0, none⟩ = false := by simp [World.frozen?, (A.out.block B1 lt1).trans HB1.out]
        have fB2 : w1.frozen? ⟨B2, 0, none⟩ = false := by simp [World.frozen?, (A.out.block B2 lt2).trans HB2.out]
        have nB1 : ¬ B1 = wr.heap.size := by omega
        have nB1r : ¬ wr.heap.size = B1 := by omega
        have nB2 : ¬ B2 = wr.heap.size := by omega
        have nB2r : ¬ wr.heap.size = B2 := by omega
        have nBB : ¬ B1 = B2 := by omega
        have nBBr : ¬ B2 = B1 := by omega
        clear hw1
        refine wpIn_wide.2 ?_
        go_quiet (fail)
        rename Nat => n1
        gi_wp2
        refine wpIn_wide.2 ?_
        go_region
        gi_wp2
        obtain ⟨T0, x1, x2⟩ := took A.out HB1.out HB2.out (n1 + 1) (Value.int .i64 p.k) (Value.int .i64 p.v) [B1, B2]
        have T4 := T0.set B1 0 (.slice ad1 r.length cc) (.inl (by simp))
        have y1 := Boxed.set (.slice ad1 r.length cc) x1
        have y2 := Boxed.cell_other x2 B1 0 (.slice ad1 r.length cc) nBBr
        have z1 : SlLt n0 wr _ r := SlLt.cut hlb1 HPP1.out HC1.out HA1.out
        have z2 : SlLt n0 wr _ [] := HS2.out
        have hM4 : MgI n0 B1 B2 _ r [] := ⟨⟨_, y1, z1.turned T4 h01 (by omega) (by omega)⟩, ⟨_, y2, z2.turned T4 h01 (by omega) (by omega)⟩⟩
        have hJ4 := HJJ.out _ _ _ HJ.out T4
        obtain ⟨e4, l4⟩ := HST.out p r [] (by simp [mrgStep])
        obtain ⟨fn, tmps, assign, body, hy, hR⟩ := HY.out pre p _ hJ4 l4
        have HM4 := Lib.hid hM4
        have E4 := Lib.hid e4
        clear T0 x1 x2 T4 y1 y2 z1 z2 hM4 hJ4 e4 l4
        rw [hy]
        refine ⟨fun _ => hn, hR.mono ?_⟩
        rintro e W5 (⟨rfl, hJ5, hk5⟩ | ⟨rfl, hJx5⟩)
        · gi_wp2
          have hM5 := HM4.out.kept hk5
          go_roundw
          case rel => exact ⟨pre ++ [p], r, [], hJ5, hM5, E4.out, by have := HLS.out; (try simp only [List.length_cons] at this ⊢); omega, by have := HLO.out; (try simp only [List.length_cons] at this ⊢); omega⟩
          case measure => rw [HLEN.out, hM5.len]; simp; try omega
        · gi_wp2
          refine bodyPost_ret (results_none rfl _ _ _) rfl ?_
          exact ⟨⟨_, rfl⟩, .inr ⟨_, ⟨_, E4.out⟩, hJx5⟩⟩
      | cons q t =>
        rcases hr1 with h | ⟨b1, off1, rfl, hlb1, hp1⟩
        · cases h
        obtain ⟨k0, k1⟩ := hp1 0 (by simp)
        simp only [List.getElem_cons_zero, Nat.zero_mul, Nat.add_zero] at k0 k1
        obtain ⟨cc, rfl⟩ : ∃ cc, cap1 = cc + 1 := ⟨cap1 - 1, by simp at hc1; omega⟩
        have HC1 : Hid (r.length ≤ cc) := Lib.hid (by simp at hc1; omega)
        have HPP1 := Lib.hid hp1
        have nb1 : ¬ b1 = wr.heap.size := by omega
        have g1b : (r.length : Int) ≤ 1000000 := by have := HLS.out; simp at this; omega
        have g10 : (0 : Int) < (r.length : Int) + 1 := by omega
        have g11 : ¬ (r.length : Int) + 1 ≤ 0 := by omega
        have g12 : (1 : Int) ≤ (r.length : Int) + 1 := by omega
        have g13 : ((r.length : Int) + 1 == 0) = false := by simp; omega
        clear hc1 hp1
        obtain ⟨ad1, sl1, ha1⟩ := cut_head b1 off1 r.length cc
        have HA1 := Lib.hid ha1
        clear ha1
        rcases hr2 with h | ⟨b2, off2, rfl, hlb2, hp2⟩
        · cases h
        obtain ⟨q0, q1⟩ := hp2 0 (by simp)
        simp only [List.getElem_cons_zero, Nat.zero_mul, Nat.add_zero] at q0 q1
        obtain ⟨dd, rfl⟩ : ∃ dd, cap2 = dd + 1 := ⟨cap2 - 1, by simp at hc2; omega⟩
        have HC2 : Hid (t.length ≤ dd) := Lib.hid (by simp at hc2; omega)
        have HPP2 := Lib.hid hp2
        have nb2 : ¬ b2 = wr.heap.size := by omega
        have g2b : (t.length : Int) ≤ 1000000 := by have := HLO.out; simp at this; omega
        have g20 : (0 : Int) < (t.length : Int) + 1 := by omega
        have g21 : ¬ (t.length : Int) + 1 ≤ 0 := by omega
        have g22 : (1 : Int) ≤ (t.length : Int) + 1 := by omega
        have g23 : ((t.length : Int) + 1 == 0) = false := by simp; omega
        clear hc2 hp2
        obtain ⟨ad2, sl2, ha2⟩ := cut_head b2 off2 t.length dd
        have HA2 := Lib.hid ha2
        clear ha2
        by_cases hkq : p.k < q.k
        · have e1 : decide (p.k < q.k) = true := by simpa using hkq
          gi_wp2
          obtain ⟨w1, hw1⟩ : ∃ w1, wr.alloc (polO 0 0) = w1 := ⟨_, rfl⟩
          have A : Hid (Below wr.heap.size wr w1) := Lib.hid (hw1 ▸ (Below.refl wr.heap.size wr).alloc (Nat.le_refl _) (polO 0 0))
          rw [show wr.alloc (Obj.cells #[Value.int IntKind.i64 0, Value.int IntKind.i64 0] 24) = w1 from hw1]
          have c1 := (A.out.cell (p := ⟨B1, 0, none⟩) lt1).trans c1
          have c2 := (A.out.cell (p := ⟨B2, 0, none⟩) lt2).trans c2
          have k0 := (A.out.cell (p := ⟨b1, off1, none⟩) (Nat.lt_of_lt_of_le hlb1 (by omega))).trans k0
          have k1 := (A.out.cell (p := ⟨b1, off1 + 1, none⟩) (Nat.lt_of_lt_of_le hlb1 (by omega))).trans k1
          have q0 := (A.out.cell (p := ⟨b2, off2, none⟩) (Nat.lt_of_lt_of_le hlb2 (by omega))).trans q0
          have q1 := (A.out.cell (p := ⟨b2, off2 + 1, none⟩) (Nat.lt_of_lt_of_le hlb2 (by omega))).trans q1
          have d0 : w1.cell? ⟨wr.heap.size, 0, none⟩ = some (.int .i64 0) := hw1 ▸ polO_c0 0 0 wr
          have d1 : w1.cell? ⟨wr.heap.size, 1, none⟩ = some (.int .i64 0) := hw1 ▸ polO_c1 0 0 wr
          have f0 : w1.frozen? ⟨wr.heap.size, 0, none⟩ = false := hw1 ▸ pol_f (heap_alloc_new _ _) 0
          have f2 : w1.frozen? ⟨wr.heap.size, 1, none⟩ = false := hw1 ▸ pol_f (heap_alloc_new _ _) 1
          have fB1 : w1.frozen? ⟨B1, 0, none⟩ = false := by simp [World.frozen?, (A.out.block B1 lt1).trans HB1.out]
          have fB2 : w1.frozen? ⟨B2, 0, none⟩ = false := by simp [World.frozen?, (A.out.block B2 lt2).trans HB2.out]
          have nB1 : ¬ B1 = wr.heap.size := by omega
          have nB1r : ¬ wr.heap.size = B1 := by omega
          have nB2 : ¬ B2 = wr.heap.size := by omega
          have nB2r : ¬ wr.heap.size = B2 := by omega
          have nBB : ¬ B1 = B2 := by omega
          have nBBr : ¬ B2 = B1 := by omega
          clear hw1
          refine wpIn_wide.2 ?_
          go_quiet (fail)
          rename Nat => n1
          gi_wp2
          refine wpIn_wide.2 ?_
          go_region
          gi_wp2
          obtain ⟨T0, x1, x2⟩ := took A.out HB1.out HB2.out (n1 + 1) (Value.int .i64 p.k) (Value.int .i64 p.v) [B1, B2]
          have T4 := T0.set B1 0 (.slice ad1 r.length cc) (.inl (by simp))
          have y1 := Boxed.set (.slice ad1 r.length cc) x1
          have y2 := Boxed.cell_other x2 B1 0 (.slice ad1 r.length cc) nBBr
          have z1 : SlLt n0 wr _ r := SlLt.cut hlb1 HPP1.out HC1.out HA1.out
          have z2 : SlLt n0 wr _ (q :: t) := HS2.out
          have hM4 : MgI n0 B1 B2 _ r (q :: t) := ⟨⟨_, y1, z1.turned T4 h01 (by omega) (by omega)⟩, ⟨_, y2, z2.turned T4 h01 (by omega) (by omega)⟩⟩
          have hJ4 := HJJ.out _ _ _ HJ.out T4
          obtain ⟨e4, l4⟩ := HST.out p r (q :: t) (by simp [mrgStep, hkq])
          obtain ⟨fn, tmps, assign, body, hy, hR⟩ := HY.out pre p _ hJ4 l4
          have HM4 := Lib.hid hM4
          have E4 := Lib.hid e4
          clear T0 x1 x2 T4 y1 y2 z1 z2 hM4 hJ4 e4 l4
          rw [hy]
          refine ⟨fun _ => hn, hR.mono ?_⟩
          rintro e W5 (⟨rfl, hJ5, hk5⟩ | ⟨rfl, hJx5⟩)
          · gi_wp2
            have hM5 := HM4.out.kept hk5
            go_roundw
            case rel => exact ⟨pre ++ [p], r, (q :: t), hJ5, hM5, E4.out, by have := HLS.out; (try simp only [List.length_cons] at this ⊢); omega, by have := HLO.out; (try simp only [List.length_cons] at this ⊢); omega⟩
            case measure => rw [HLEN.out, hM5.len]; simp; try omega
          · gi_wp2
            refine bodyPost_ret (results_none rfl _ _ _) rfl ?_
            exact ⟨⟨_, rfl⟩, .inr ⟨_, ⟨_, E4.out⟩, hJx5⟩⟩
        · have e1 : decide (p.k < q.k) = false := by simpa using hkq
          by_cases hkq2 : p.k = q.k
          · have e2 : (p.k == q.k) = true := by simpa using hkq2
            have HKQ := Lib.hid (⟨hkq, hkq2⟩ : ¬ p.k < q.k ∧ p.k = q.k)
            clear hkq2 hkq
            gi_wp2
            obtain ⟨w1, hw1⟩ : ∃ w1, wr.alloc (polO 0 0) = w1 := ⟨_, rfl⟩
            have A : Hid (Below wr.heap.size wr w1) := Lib.hid (hw1 ▸ (Below.refl wr.heap.size wr).alloc (Nat.le_refl _) (polO 0 0))
            rw [show wr.alloc (Obj.cells #[Value.int IntKind.i64 0, Value.int IntKind.i64 0] 24) = w1 from hw1]
            have c1 := (A.out.cell (p := ⟨B1, 0, none⟩) lt1).trans c1
            have c2 := (A.out.cell (p := ⟨B2, 0, none⟩) lt2).trans c2
            have k0 := (A.out.cell (p := ⟨b1, off1, none⟩) (Nat.lt_of_lt_of_le hlb1 (by omega))).trans k0
            have k1 := (A.out.cell (p := ⟨b1, off1 + 1, none⟩) (Nat.lt_of_lt_of_le hlb1 (by omega))).trans k1
            have q0 := (A.out.cell (p := ⟨b2, off2, none⟩) (Nat.lt_of_lt_of_le hlb2 (by omega))).trans q0
            have q1 := (A.out.cell (p := ⟨b2, off2 + 1, none⟩) (Nat.lt_of_lt_of_le hlb2 (by omega))).trans q1
            have d0 : w1.cell? ⟨wr.heap.size, 0, none⟩ = some (.int .i64 0) := hw1 ▸ polO_c0 0 0 wr
            have d1 : w1.cell? ⟨wr.heap.size, 1, none⟩ = some (.int .i64 0) := hw1 ▸ polO_c1 0 0 wr
            have f0 : w1.frozen? ⟨wr.heap.size, 0, none⟩ = false := hw1 ▸ pol_f (heap_alloc_new _ _) 0
            have f2 : w1.frozen? ⟨wr.heap.size, 1, none⟩ = false := hw1 ▸ pol_f (heap_alloc_new _ _) 1
            have fB1 : w1.frozen? ⟨B1, 0, none⟩ = false := by simp [World.frozen?, (A.out.block B1 lt1).trans HB1.out]
            have fB2 : w1.frozen? ⟨B2, 0, none⟩ = false := by simp [World.frozen?, (A.out.block B2 lt2).trans HB2.out]
            have nB1 : ¬ B1 = wr.heap.size := by omega
            have nB1r : ¬ wr.heap.size = B1 := by omega
            have nB2 : ¬ B2 = wr.heap.size := by omega
            have nB2r : ¬ wr.heap.size = B2 := by omega
            have nBB : ¬ B1 = B2 := by omega
            have nBBr : ¬ B2 = B1 := by omega
            clear hw1
            refine wpIn_wide.2 ?_
            go_quiet (fail)
            rename Nat => n1
            gi_wp2
            refine wpIn_wide.2 ?_
            go_quiet (fail)
            rename Nat => n2
            gi_wp2
            refine wpIn_wide.2 ?_
            go_region
            gi_wp2
            obtain ⟨T0, x1, x2⟩ := took A.out HB1.out HB2.out (n1 + n2 + 1) (Value.int .i64 q.k) (Value.int .i64 q.v) [B1, B2]
            have T4 := (T0.set B1 0 (.slice ad1 r.length cc) (.inl (by simp))).set B2 0 (.slice ad2 t.length dd) (.inl (by simp))
            have y1 := Boxed.cell_other (Boxed.set (.slice ad1 r.length cc) x1) B2 0 (.slice ad2 t.length dd) nBB
            have y2 := Boxed.set (.slice ad2 t.length dd) (Boxed.cell_other x2 B1 0 (.slice ad1 r.length cc) nBBr)
            have z1 : SlLt n0 wr _ r := SlLt.cut hlb1 HPP1.out HC1.out HA1.out
            have z2 : SlLt n0 wr _ t := SlLt.cut hlb2 HPP2.out HC2.out HA2.out
            have hM4 : MgI n0 B1 B2 _ r t := ⟨⟨_, y1, z1.turned T4 h01 (by omega) (by omega)⟩, ⟨_, y2, z2.turned T4 h01 (by omega) (by omega)⟩⟩
            have hJ4 := HJJ.out _ _ _ HJ.out T4
            obtain ⟨e4, l4⟩ := HST.out q r t (by simp [mrgStep, HKQ.out.2])
            obtain ⟨fn, tmps, assign, body, hy, hR⟩ := HY.out pre q _ hJ4 l4
            have HM4 := Lib.hid hM4
            have E4 := Lib.hid e4
            clear T0 x1 x2 T4 y1 y2 z1 z2 hM4 hJ4 e4 l4
            rw [hy]
            refine ⟨fun _ => hn, hR.mono ?_⟩
            rintro e W5 (⟨rfl, hJ5, hk5⟩ | ⟨rfl, hJx5⟩)
            · gi_wp2
              have hM5 := HM4.out.kept hk5
              go_roundw
              case rel => exact ⟨pre ++ [q], r, t, hJ5, hM5, E4.out, by have := HLS.out; (try simp only [List.length_cons] at this ⊢); omega, by have := HLO.out; (try simp only [List.length_cons] at this ⊢); omega⟩
              case measure => rw [HLEN.out, hM5.len]; simp; try omega
            · gi_wp2
              refine bodyPost_ret (results_none rfl _ _ _) rfl ?_
              exact ⟨⟨_, rfl⟩, .inr ⟨_, ⟨_, E4.out⟩, hJx5⟩⟩
          · have e2 : (p.k == q.k) = false := by simpa using hkq2
            have HKQ := Lib.hid (⟨hkq, hkq2⟩ : ¬ p.k < q.k ∧ ¬ p.k = q.k)
            clear hkq2 hkq
            gi_wp2
            obtain ⟨w1, hw1⟩ : ∃ w1, wr.alloc (polO 0 0) = w1 := ⟨_, rfl⟩
            have A : Hid (Below wr.heap.size wr w1) := Lib.hid (hw1 ▸ (Below.refl wr.heap.size wr).alloc (Nat.le_refl _) (polO 0 0))
            rw [show wr.alloc (Obj.cells #[Value.int IntKind.i64 0, Value.int IntKind.i64 0] 24) = w1 from hw1]
            have c1 := (A.out.cell (p := ⟨B1, 0, none⟩) lt1).trans c1
            have c2 := (A.out.cell (p := ⟨B2, 0, none⟩) lt2).trans c2
            have k0 := (A.out.cell (p := ⟨b1, off1, none⟩) (Nat.lt_of_lt_of_le hlb1 (by omega))).trans k0
            have k1 := (A.out.cell (p := ⟨b1, off1 + 1, none⟩) (Nat.lt_of_lt_of_le hlb1 (by omega))).trans k1
            have q0 := (A.out.cell (p := ⟨b2, off2, none⟩) (Nat.lt_of_lt_of_le hlb2 (by omega))).trans q0
            have q1 := (A.out.cell (p := ⟨b2, off2 + 1, none⟩) (Nat.lt_of_lt_of_le hlb2 (by omega))).trans q1
            have d0 : w1.cell? ⟨wr.heap.size, 0, none⟩ = some (.int .i64 0) := hw1 ▸ polO_c0 0 0 wr
            have d1 : w1.cell? ⟨wr.heap.size, 1, none⟩ = some (.int .i64 0) := hw1 ▸ polO_c1 0 0 wr
            have f0 : w1.frozen? ⟨wr.heap.size, 0, none⟩ = false := hw1 ▸ pol_f (heap_alloc_new _ _) 0
            have f2 : w1.frozen? ⟨wr.heap.size, 1, none⟩ = false := hw1 ▸ pol_f (heap_alloc_new _ _) 1
            have fB1 : w1.frozen? ⟨B1, 0, none⟩ = false := by simp [World.frozen?, (A.out.block B1 lt1).trans HB1.out]
            have fB2 : w1.frozen? ⟨B2, 0, none⟩ = false := by simp [World.frozen?, (A.out.block B2 lt2).trans HB2.out]
            have nB1 : ¬ B1 = wr.heap.size := by omega
            have nB1r : ¬ wr.heap.size = B1 := by omega
            have nB2 : ¬ B2 = wr.heap.size := by omega
            have nB2r : ¬ wr.heap.size = B2 := by omega
            have nBB : ¬ B1 = B2 := by omega
            have nBBr : ¬ B2 = B1 := by omega
            clear hw1
            refine wpIn_wide.2 ?_
            go_quiet (fail)
            rename Nat => n1
            gi_wp2
            refine wpIn_wide.2 ?_
            go_quiet (fail)
            rename Nat => n2
            gi_wp2
            refine wpIn_wide.2 ?_
            go_region
            gi_wp2
            obtain ⟨T0, x1, x2⟩ := took A.out HB1.out HB2.out (n1 + n2 + 1) (Value.int .i64 q.k) (Value.int .i64 q.v) [B1, B2]
            have T4 := T0.set B2 0 (.slice ad2 t.length dd) (.inl (by simp))
            have y1 := Boxed.cell_other x1 B2 0 (.slice ad2 t.length dd) nBB
            have y2 := Boxed.set (.slice ad2 t.length dd) x2
            have z1 : SlLt n0 wr _ (p :: r) := HS1.out
            have z2 : SlLt n0 wr _ t := SlLt.cut hlb2 HPP2.out HC2.out HA2.out
            have hM4 : MgI n0 B1 B2 _ (p :: r) t := ⟨⟨_, y1, z1.turned T4 h01 (by omega) (by omega)⟩, ⟨_, y2, z2.turned T4 h01 (by omega) (by omega)⟩⟩
            have hJ4 := HJJ.out _ _ _ HJ.out T4
            obtain ⟨e4, l4⟩ := HST.out q (p :: r) t (by simp [mrgStep, HKQ.out.1, HKQ.out.2])
            obtain ⟨fn, tmps, assign, body, hy, hR⟩ := HY.out pre q _ hJ4 l4
            have HM4 := Lib.hid hM4
            have E4 := Lib.hid e4
            clear T0 x1 x2 T4 y1 y2 z1 z2 hM4 hJ4 e4 l4
            rw [hy]
            refine ⟨fun _ => hn, hR.mono ?_⟩
            rintro e W5 (⟨rfl, hJ5, hk5⟩ | ⟨rfl, hJx5⟩)
            · gi_wp2
              have hM5 := HM4.out.kept hk5
              go_roundw
              case rel => exact ⟨pre ++ [q], (p :: r), t, hJ5, hM5, E4.out, by have := HLS.out; (try simp only [List.length_cons] at this ⊢); omega, by have := HLO.out; (try simp only [List.length_cons] at this ⊢); omega⟩
              case measure => rw [HLEN.out, hM5.len]; simp; try omega
            · gi_wp2
              refine bodyPost_ret (results_none rfl _ _ _) rfl ?_
              exact ⟨⟨_, rfl⟩, .inr ⟨_, ⟨_, E4.out⟩, hJx5⟩⟩

end Go.Proofs.YtladjkkkhomngaaDoor
