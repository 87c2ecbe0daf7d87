/- The iterator of points at two texts: its contract for whatever body. -/
import Derived.Test.YtnebjdjebnphnaaDoorEa
import Derived.RangeFuncBound
import Derived.Shelf.Abstract
import Derived.Shelf.RegionOpen
import Derived.OwnWalkIn
import Derived.TacticsInMore
import Derived.LoopNIn
import Derived.LoopIn
import Derived.RegionTactic
import Derived.Stop.RegionWithIn
import Derived.BigFrameIn
namespace Go.Proofs.YtnebjdjebnphnaaDoor
set_option maxRecDepth 8000
open Go.RowKit Go.Shelf
attribute [local go_sem] Oper.semAt_some

/-- What a round must keep: the blocks below a bound, and the two boxes. -/
def KP (n0 B1 B2 k : Nat) : Prop := k < n0 ∨ k = B1 ∨ k = B2
/-- A place and a point as values. -/
def yV (p : Int × Int) : Array Value := #[.int .i64 p.1, .int .i64 p.2]
/-- The boxes of the iterator. -/
structure PtI (n0 B1 B2 : Nat) (W : World) (s : ByteArray) (v : Value) : Prop where
  s : Boxed W B1 9 (.string s)
  c : Boxed W B2 59 v
  env : Env W
  n0 : n0 ≤ W.heap.size ∧ 4 ≤ n0
theorem Env.same {W W' : World} (h : Env W) (hk : ∀ k, k < 4 → W'.heap[k]? = W.heap[k]?) : Env W' := by
  obtain ⟨h1, m, hm⟩ := h.len
  have c0 : W'.cell? ⟨0, 0, none⟩ = _ := (World.cell?_of_block (hk 0 (by omega))).trans (h.names.2 0 (by omega))
  have c1 : W'.cell? ⟨1, 0, none⟩ = _ := (World.cell?_of_block (hk 1 (by omega))).trans hm
  exact ⟨⟨World.block_lt_of_cell? _ _ c0, fun k hk' => (World.cell?_of_block (hk 0 (by omega))).trans (h.names.2 k hk')⟩, ⟨World.block_lt_of_cell? _ _ c1, m, c1⟩, fun c hc => (World.cell?_of_block (hk 2 (by omega))).trans (h.tabs.1 c hc), fun i hi => ⟨(World.cell?_of_block (hk 3 (by omega))).trans (h.tabs.2 i hi).1, (World.cell?_of_block (hk 3 (by omega))).trans (h.tabs.2 i hi).2⟩⟩
theorem Env.four {W : World} (h : Env W) : 4 ≤ W.heap.size := World.block_lt_of_cell? _ _ (h.tabs.2 0 (by omega)).1
theorem PtI.turned {n0 B1 B2 : Nat} {W W' : World} {s : ByteArray} {v : Value} (h : PtI n0 B1 B2 W s v) (ht : Turns [] W W') : PtI n0 B1 B2 W' s v :=
  ⟨(ht.block _ h.s.lt (by simp)).trans h.s, (ht.block _ h.c.lt (by simp)).trans h.c, h.env.same fun k hk => ht.block k (by have := h.env.four; omega) (by simp), by have := h.n0; have := ht.size; omega⟩
theorem PtI.kept {n0 B1 B2 : Nat} {W W' : World} {s : ByteArray} {v : Value} (h : PtI n0 B1 B2 W s v) (hk : Kept (KP n0 B1 B2) W W') : PtI n0 B1 B2 W' s v := by
  have h0 := h.n0
  refine ⟨(hk B1 (.inr (.inl rfl))).trans h.s, (hk B2 (.inr (.inr rfl))).trans h.c, h.env.same fun k h4 => hk k (.inl (by omega)), ?_, h0.2⟩
  have e := hk (n0 - 1) (.inl (by omega))
  rw [Array.getElem?_eq_getElem (by omega : n0 - 1 < W.heap.size)] at e
  have := (Array.getElem?_eq_some_iff.1 e).1
  omega
/-- What is asked of a round's yield, as one. -/
def YR (K : Nat → Prop) (J Jx : List (Int × Int) → World → Prop) (ps : List (Int × Int)) (W : World) (r : Bool) (W' : World) : Prop := (r = true → J ps W' ∧ Kept K W W') ∧ (r = false → Jx ps W')
theorem yield_one {n l : Nat} {x : Int × Int} {W : World} {K : Nat → Prop} {J Jx : List (Int × Int) → World → Prop} {ps : List (Int × Int)}
    (h : YieldAt Fence.wide (n - 1) Tryd.prog l (yV x) W fun e W' => (e = .returned (.bool true) ∧ J ps W' ∧ Kept K W W') ∨ (e = .returned (.bool false) ∧ Jx ps W')) :
    YieldAt Fence.wide (n - 1) Tryd.prog l (yV x) W fun e W' => ∃ r, e = .returned (.bool r) ∧ YR K J Jx ps W r W' := by
  obtain ⟨fn, tmps, assign, body, hy, hR⟩ := h
  refine ⟨fn, tmps, assign, body, hy, hR.mono fun e W' hh => ?_⟩
  rcases hh with ⟨h1, h2, h3⟩ | ⟨h1, h2⟩
  · exact ⟨true, h1, (fun _ => ⟨h2, h3⟩), (fun h => by cases h)⟩
  · exact ⟨false, h1, (fun h => by cases h), fun _ => h2⟩

set_option maxRecDepth 100000 in
set_option maxHeartbeats 8000000 in
theorem iter1 (n : Nat) (hn : 1 ≤ n) (l n0 B1 B2 : Nat) (J Jx : List (Int × Int) → World → Prop) (hJ : Bears [] J)
    (hY : ∀ pre x W, J pre W → pre ++ [x] <+: ([(0, 228)] : List (Int × Int)) → YieldAt Fence.wide (n - 1) Tryd.prog l (yV x) W fun e W' => ∃ r, e = .returned (.bool r) ∧ YR (KP n0 B1 B2) J Jx (pre ++ [x]) W r W')
    (W : World) (hM : PtI n0 B1 B2 W ⟨#[228]⟩ (.iface 77 (.agg #[.int .i64 255, .int .i64 0, .int .i64 0, .int .i64 0]))) (h0 : J [] W) :
    CallsIn Fence.wide n Tryd.prog 45 #[.func (.yield l) #[] #[], .pointer (some ⟨B1, 0, none⟩), .pointer (some ⟨B2, 0, none⟩)] W fun e W' => (∃ v, e = .returned v) ∧
      ((∃ ys, ys = ([(0, 228)] : List (Int × Int)) ∧ J ys W') ∨ (∃ pre, pre <+: ([(0, 228)] : List (Int × Int)) ∧ Jx pre W')) := by
  have HM := Lib.hid hM
  have hm : ∀ w : World, (method 249 77 (.agg #[.int .i64 255, .int .i64 0, .int .i64 0, .int .i64 0]) "intermede/codeset.next").run Tryd.prog w = .ok (109, .agg #[.int .i64 255, .int .i64 0, .int .i64 0, .int .i64 0]) w := fun _ => by kernel_rfl
  have HJJ := Lib.hid hJ
  have HY := Lib.hid hY
  clear hM hJ hY
  refine callsIn_of_wp Tryd.func45 rfl trivial ?_ rfl
  simp only [Tryd.ntmps45, List.size_toArray, List.length_cons, List.length_nil, Nat.reduceAdd, Nat.reduceSub, Array.replicate_succ, Array.replicate_zero, List.push_toArray, List.append_toArray, List.nil_append, List.cons_append]
  gi_wp2
  gi_loopw [4] (fun pl wr => PtI n0 B1 B2 wr ⟨#[228]⟩ (.iface 77 (.agg #[.int .i64 255, .int .i64 0, .int .i64 0, .int .i64 0])) ∧ ((pl = .int .i64 0 ∧ J [] wr) ∨ (pl = .int .i64 1 ∧ J [(0, 228)] wr)))
    (fun i _ => 1 - (intOf i).toNat)
  case atStart => exact ⟨HM.out, .inl ⟨rfl, h0⟩⟩
  case round =>
    obtain ⟨hMg, hrel⟩ := hrel
    have HPI := Lib.hid hMg
    have c1 := hMg.s.cell
    have c2 := hMg.c.cell
    clear hMg
    rcases hrel with ⟨rfl, hJp⟩ | ⟨rfl, hJp⟩
    · have HJ := Lib.hid hJp
      have NX := Lib.hid (next_e4 wr)
      clear hJp
      gi_wp2_with (refine ⟨by first | trivial | (intros; trivial), ?_⟩; gi_at_call 109; refine (callsIn_wide.2 NX.out).mono ?_; rintro e w1 ⟨rfl, hb1⟩; have HB1 := Lib.hid hb1; obtain ⟨fn, tmps, assign, bdy, hy, hR⟩ := HY.out [] (0, 228) w1 (HJJ.out _ _ _ HJ.out (Turns.of_below hb1 [])) ⟨[], rfl⟩; have HR := Lib.hid hR; simp only [yV] at hy; clear hb1 hR)
      refine HR.out.mono ?_
      rintro e W5 ⟨r, rfl, h5⟩
      have H5 := Lib.hid h5
      clear h5 hy c1 c2
      cases r with
      | true =>
        have hk5 := (H5.out.1 rfl)
        gi_wp2
        go_roundw
        case rel => exact ⟨(HPI.out.turned (Turns.of_below HB1.out [])).kept hk5.2, .inr (⟨by go_num, hk5.1⟩)⟩
        case measure => simp [intOf]
      | false =>
        gi_wp2
        refine bodyPost_ret (results_none rfl _ _ _) rfl ?_
        exact ⟨⟨_, rfl⟩, .inr ⟨_, ⟨[], rfl⟩, H5.out.2 rfl⟩⟩
    · have HJ := Lib.hid hJp
      clear hJp
      gi_wp2
      go_end0
      exact ⟨⟨_, rfl⟩, .inl ⟨_, rfl, HJ.out⟩⟩

set_option maxRecDepth 100000 in
set_option maxHeartbeats 8000000 in
theorem iter3 (n : Nat) (hn : 1 ≤ n) (l n0 B1 B2 : Nat) (J Jx : List (Int × Int) → World → Prop) (hJ : Bears [] J)
    (hY : ∀ pre x W, J pre W → pre ++ [x] <+: ([(0, 97), (1, 228)] : List (Int × Int)) → YieldAt Fence.wide (n - 1) Tryd.prog l (yV x) W fun e W' => ∃ r, e = .returned (.bool r) ∧ YR (KP n0 B1 B2) J Jx (pre ++ [x]) W r W')
    (W : World) (hM : PtI n0 B1 B2 W ⟨#[97, 195, 164]⟩ (.iface 79 (.agg #[]))) (h0 : J [] W) :
    CallsIn Fence.wide n Tryd.prog 45 #[.func (.yield l) #[] #[], .pointer (some ⟨B1, 0, none⟩), .pointer (some ⟨B2, 0, none⟩)] W fun e W' => (∃ v, e = .returned v) ∧
      ((∃ ys, ys = ([(0, 97), (1, 228)] : List (Int × Int)) ∧ J ys W') ∨ (∃ pre, pre <+: ([(0, 97), (1, 228)] : List (Int × Int)) ∧ Jx pre W')) := by
  have HM := Lib.hid hM
  have hm : ∀ w : World, (method 249 79 (.agg #[]) "intermede/codeset.next").run Tryd.prog w = .ok (111, .agg #[]) w := fun _ => by kernel_rfl
  have HJJ := Lib.hid hJ
  have HY := Lib.hid hY
  clear hM hJ hY
  refine callsIn_of_wp Tryd.func45 rfl trivial ?_ rfl
  simp only [Tryd.ntmps45, List.size_toArray, List.length_cons, List.length_nil, Nat.reduceAdd, Nat.reduceSub, Array.replicate_succ, Array.replicate_zero, List.push_toArray, List.append_toArray, List.nil_append, List.cons_append]
  gi_wp2
  gi_loopw [4] (fun pl wr => PtI n0 B1 B2 wr ⟨#[97, 195, 164]⟩ (.iface 79 (.agg #[])) ∧ ((pl = .int .i64 0 ∧ J [] wr) ∨ (pl = .int .i64 1 ∧ J [(0, 97)] wr) ∨ (pl = .int .i64 3 ∧ J [(0, 97), (1, 228)] wr)))
    (fun i _ => 3 - (intOf i).toNat)
  case atStart => exact ⟨HM.out, .inl ⟨rfl, h0⟩⟩
  case round =>
    obtain ⟨hMg, hrel⟩ := hrel
    have HPI := Lib.hid hMg
    have c1 := hMg.s.cell
    have c2 := hMg.c.cell
    clear hMg
    rcases hrel with ⟨rfl, hJp⟩ | ⟨rfl, hJp⟩ | ⟨rfl, hJp⟩
    · have HJ := Lib.hid hJp
      have NX := Lib.hid (next_a wr HPI.out.env)
      clear hJp
      gi_wp2_with (refine ⟨by first | trivial | (intros; trivial), ?_⟩; gi_at_call 111; refine (callsIn_wide.2 NX.out).mono ?_; rintro e w1 ⟨rfl, hb1⟩; have HB1 := Lib.hid hb1; obtain ⟨fn, tmps, assign, bdy, hy, hR⟩ := HY.out [] (0, 97) w1 (HJJ.out _ _ _ HJ.out (Turns.of_below hb1 [])) ⟨[(1, 228)], rfl⟩; have HR := Lib.hid hR; simp only [yV] at hy; clear hb1 hR)
      refine HR.out.mono ?_
      rintro e W5 ⟨r, rfl, h5⟩
      have H5 := Lib.hid h5
      clear h5 hy c1 c2
      cases r with
      | true =>
        have hk5 := (H5.out.1 rfl)
        gi_wp2
        go_roundw
        case rel => exact ⟨(HPI.out.turned (Turns.of_below HB1.out [])).kept hk5.2, .inr (.inl ⟨by go_num, hk5.1⟩)⟩
        case measure => simp [intOf]
      | false =>
        gi_wp2
        refine bodyPost_ret (results_none rfl _ _ _) rfl ?_
        exact ⟨⟨_, rfl⟩, .inr ⟨_, ⟨[(1, 228)], rfl⟩, H5.out.2 rfl⟩⟩
    · have HJ := Lib.hid hJp
      have NX := Lib.hid (next_c wr HPI.out.env)
      clear hJp
      gi_wp2_with (refine ⟨by first | trivial | (intros; trivial), ?_⟩; gi_at_call 111; refine (callsIn_wide.2 NX.out).mono ?_; rintro e w1 ⟨rfl, hb1⟩; have HB1 := Lib.hid hb1; obtain ⟨fn, tmps, assign, bdy, hy, hR⟩ := HY.out [(0, 97)] (1, 228) w1 (HJJ.out _ _ _ HJ.out (Turns.of_below hb1 [])) ⟨[], rfl⟩; have HR := Lib.hid hR; simp only [yV] at hy; clear hb1 hR)
      refine HR.out.mono ?_
      rintro e W5 ⟨r, rfl, h5⟩
      have H5 := Lib.hid h5
      clear h5 hy c1 c2
      cases r with
      | true =>
        have hk5 := (H5.out.1 rfl)
        gi_wp2
        go_roundw
        case rel => exact ⟨(HPI.out.turned (Turns.of_below HB1.out [])).kept hk5.2, .inr (.inr (⟨by go_num, hk5.1⟩))⟩
        case measure => simp [intOf]
      | false =>
        gi_wp2
        refine bodyPost_ret (results_none rfl _ _ _) rfl ?_
        exact ⟨⟨_, rfl⟩, .inr ⟨_, ⟨[], rfl⟩, H5.out.2 rfl⟩⟩
    · have HJ := Lib.hid hJp
      clear hJp
      gi_wp2
      go_end0
      exact ⟨⟨_, rfl⟩, .inl ⟨_, rfl, HJ.out⟩⟩

end Go.Proofs.YtnebjdjebnphnaaDoor
