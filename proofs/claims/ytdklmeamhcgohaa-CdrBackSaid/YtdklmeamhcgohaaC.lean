/- The iterator (cdr.frame).shifts: its contract for whatever body. -/
import Derived.RangeFuncNested
import Derived.RangeFuncBound
import Derived.RangeFuncCalls
import Derived.RangeFuncLeaves
import Derived.RangeFuncBox
import Derived.Shelf.Abstract
import Derived.Shelf.RegionOpen
import Derived.WalkKit
import Derived.OwnWalkIn
import Derived.TacticsInMore
import Derived.LoopNIn
import Derived.LoopIn
import Derived.Test.YtdklmeamhcgohaaB
namespace Go.Proofs.Ytdklmeamhcgohaa
open Go.RowKit Go.Shelf
attribute [local go_sem] Oper.semAt_some

/-- The bits by which a number may be shifted. -/
abbrev Sh := { x : Int // 0 ≤ x ∧ x < 64 }
def mkSh (x : Int) : Sh := if h : 0 ≤ x ∧ x < 64 then ⟨x, h⟩ else ⟨0, by omega⟩
theorem mkSh_val (x : Int) (h : 0 ≤ x ∧ x < 64) : (mkSh x).1 = x := by simp [mkSh, h]

/-- By how many bits the byte number k of a number of s bytes is shifted. -/
def sh (big : Bool) (s k : Nat) : Int := if big then 8 * ((s : Int) - 1 - k) else 8 * k
/-- The first k of them. -/
def shs (big : Bool) (s k : Nat) : List Sh := (List.range k).map fun i => mkSh (sh big s i)
theorem shs_succ (big : Bool) (s k : Nat) : shs big s (k + 1) = shs big s k ++ [mkSh (sh big s k)] := by simp [shs, List.range_succ]
theorem shs_length (big : Bool) (s k : Nat) : (shs big s k).length = k := by simp [shs]
theorem shs_prefix (big : Bool) (s : Nat) {k m : Nat} (h : k ≤ m) : shs big s k <+: shs big s m := by
  obtain ⟨d, rfl⟩ := Nat.exists_eq_add_of_le h
  induction d with
  | zero => exact List.prefix_refl _
  | succ d ih => rw [← Nat.add_assoc, shs_succ]; exact (ih (by omega)).trans (List.prefix_append _ _)

/-- What a round must keep: the two boxes of the closure. -/
def KpS (B1 B2 : Nat) (W W' : World) : Prop := W'.heap[B1]? = W.heap[B1]? ∧ W'.heap[B2]? = W.heap[B2]?

set_option maxHeartbeats 400000 in
theorem shifts_in (F : Fence) (n : Nat) (h59 : F.fn 59) (hro : F.round = none) (big : Bool) (a : Int) (s : Nat) (w : World) :
    CallsIn F n Try.prog 59 #[.agg #[.bool big, .int .i64 a], .int .i64 s] w fun e w' => e = .returned (.func (.func 97) #[] #[.pointer (some ⟨w.heap.size + 1, 0, none⟩), .pointer (some ⟨w.heap.size, 0, none⟩)]) ∧
      w' = (w.alloc (.cells #[.bool big, .int .i64 a] 61)).alloc (.cells #[.int .i64 s] 3) := by
  refine callsIn_of_wp Try.func59 rfl h59 ?_ hro
  simp only [Try.ntmps59, List.size_toArray, List.length_cons, List.length_nil, Nat.reduceAdd, Nat.reduceSub, Array.replicate_succ, Array.replicate_zero, List.push_toArray, List.append_toArray, List.nil_append, List.cons_append]
  gi_wp2
  go_ret
  exact ⟨rfl, rfl⟩

set_option maxRecDepth 100000 in
set_option maxHeartbeats 1000000 in
theorem shifts1_in (F : Fence) (n : Nat) (h97 : F.fn 97) (hro : F.round = none) (hn : 1 ≤ n) (l B1 B2 : Nat) (big : Bool) (a : Int) (s : Nat) (hs : s ≤ 8) (J Jx : List Sh → World → Prop)
    (hY : ∀ pre x W, J pre W → pre.length < (shs big s s).length → YieldAt F (n - 1) Try.prog l #[.int .i64 x.1] W fun e W' =>
      (e = .returned (.bool true) ∧ J (pre ++ [x]) W' ∧ KpS B1 B2 W W') ∨ (e = .returned (.bool false) ∧ Jx (pre ++ [x]) W'))
    (W : World) (hB1 : W.heap[B1]? = some (.cells #[.int .i64 s] 3 (0, 0))) (hB2 : W.heap[B2]? = some (.cells #[.bool big, .int .i64 a] 61 (0, 0))) (h0 : J [] W) :
    CallsIn F n Try.prog 97 #[.func (.yield l) #[] #[], .pointer (some ⟨B1, 0, none⟩), .pointer (some ⟨B2, 0, none⟩)] W fun e W' => (∃ v, e = .returned v) ∧
      ((∃ ys, ys = shs big s s ∧ J ys W') ∨ (∃ pre, pre <+: shs big s s ∧ Jx pre W')) := by
  have hc1 : W.cell? ⟨B1, 0, none⟩ = some (.int .i64 s) := by simp [World.cell?, hB1]
  have HB1 := Lib.hid hB1
  have HB2 := Lib.hid hB2
  clear hB1 hB2
  refine callsIn_of_wp Try.func97 rfl h97 ?_ hro
  simp only [Try.ntmps97, List.size_toArray, List.length_cons, List.length_nil, Nat.reduceAdd, Nat.reduceSub, Array.replicate_succ, Array.replicate_zero, List.push_toArray, List.append_toArray, List.nil_append, List.cons_append]
  gi_wp2
  gi_loopw [6] (fun i wr => ∃ k : Nat, k ≤ s ∧ i = .int .i64 k ∧ J (shs big s k) wr ∧ wr.heap[B1]? = some (.cells #[.int .i64 s] 3 (0, 0)) ∧ wr.heap[B2]? = some (.cells #[.bool big, .int .i64 a] 61 (0, 0)))
    (fun i _ => s - (intOf i).toNat)
  case atStart => exact ⟨0, Nat.zero_le _, rfl, h0, HB1.out, HB2.out⟩
  case round =>
    clear hc1
    obtain ⟨k, hk, rfl, hJ, hb1, hb2⟩ := hrel
    have hc1 : wr.cell? ⟨B1, 0, none⟩ = some (.int .i64 s) := by simp [World.cell?, hb1]
    have hc2 : wr.cell? ⟨B2, 0, none⟩ = some (.bool big) := by simp [World.cell?, hb2]
    have Hb1 := Lib.hid hb1
    have Hb2 := Lib.hid hb2
    clear hb1 hb2
    by_cases hlt : k < s
    · obtain ⟨fn, tmps, assign, body, hy, hR⟩ := hY (shs big s k) (mkSh (sh big s k)) wr hJ (by rw [shs_length, shs_length]; exact hlt)
      cases big
      · have hx : (mkSh (sh false s k)).1 = 8 * (k : Int) := by rw [mkSh_val _ (by simp [sh]; omega)]; simp [sh]
        rw [hx] at hy
        gi_wp2
        refine hR.mono ?_
        rintro e W3 (⟨rfl, hJ3, hk3⟩ | ⟨rfl, hJx3⟩)
        · gi_wp2
          go_roundw
          case rel => exact ⟨k + 1, by omega, by go_num, by rw [shs_succ]; exact hJ3, hk3.1.trans Hb1.out, hk3.2.trans Hb2.out⟩
          case measure => simp [intOf]; omega
        · gi_wp2
          refine bodyPost_ret (results_none rfl _ _ _) rfl ?_
          exact ⟨⟨_, rfl⟩, .inr ⟨_, by rw [← shs_succ]; exact shs_prefix _ _ hlt, hJx3⟩⟩
      · have hx : (mkSh (sh true s k)).1 = 8 * ((s : Int) - 1 - k) := by rw [mkSh_val _ (by simp [sh]; omega)]; simp [sh]
        rw [hx] at hy
        gi_wp2
        refine hR.mono ?_
        rintro e W3 (⟨rfl, hJ3, hk3⟩ | ⟨rfl, hJx3⟩)
        · gi_wp2
          go_roundw
          case rel => exact ⟨k + 1, by omega, by go_num, by rw [shs_succ]; exact hJ3, hk3.1.trans Hb1.out, hk3.2.trans Hb2.out⟩
          case measure => simp [intOf]; omega
        · gi_wp2
          refine bodyPost_ret (results_none rfl _ _ _) rfl ?_
          exact ⟨⟨_, rfl⟩, .inr ⟨_, by rw [← shs_succ]; exact shs_prefix _ _ hlt, hJx3⟩⟩
    · obtain rfl : k = s := by omega
      gi_wp2
      go_end0
      exact ⟨⟨_, rfl⟩, .inl ⟨_, rfl, hJ⟩⟩

/-- THE ITERATOR's CONTRACT. -/
theorem shifts_stops (F : Fence) (n : Nat) (h97 : F.fn 97) (hro : F.round = none) (hn : 1 ≤ n) (B1 B2 : Nat) (big : Bool) (a : Int) (s : Nat) (hs : s ≤ 8) (w : World) (hB1 : w.heap[B1]? = some (.cells #[.int .i64 s] 3 (0, 0))) (hB2 : w.heap[B2]? = some (.cells #[.bool big, .int .i64 a] 61 (0, 0))) :
    SeqStopsK F n Try.prog 97 #[.pointer (some ⟨B1, 0, none⟩), .pointer (some ⟨B2, 0, none⟩)] (fun x : Sh => #[Value.int .i64 x.1]) (KpS B1 B2) (fun ys => ys = shs big s s) (fun pre => pre <+: shs big s s) (shs big s s).length w := fun l J Jx W hW _ _ hY h0 =>
  shifts1_in F n h97 hro hn l B1 B2 big a s hs J Jx hY W ((hW.block _ (Array.getElem?_eq_some_iff.1 hB1).1).trans hB1) ((hW.block _ (Array.getElem?_eq_some_iff.1 hB2).1).trans hB2) h0

end Go.Proofs.Ytdklmeamhcgohaa
