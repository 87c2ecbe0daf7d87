/- The iterator frag.pieces: its contract for whatever body, over the sizes that Cut tells, and over those that Sizes tells. -/
import Derived.Test.YteblbpdpfegooaaC
import Derived.RangeFuncBound
import Derived.Shelf.Abstract
import Derived.Shelf.RegionOpen
import Derived.OwnWalkIn
import Derived.TacticsInMore
import Derived.LoopNIn
import Derived.LoopIn
import Derived.RegionTactic
import Derived.Stop.RegionWithIn
import Derived.BigFrameIn
namespace Go.Proofs.Yteblbpdpfegooaa
open Go.RowKit Go.Shelf
attribute [local go_sem] Oper.semAt_some

/-- What a round must keep: the blocks below a bound, and the three boxes. -/
def KP (n0 B1 B2 B3 k : Nat) : Prop := k < n0 ∨ k = B1 ∨ k = B2 ∨ k = B3

/-- A piece as a value. -/
def pcV (p : Pc) : Array Value := #[Value.agg #[.int .i64 p.id, .int .i64 p.place, .bool p.more, .string p.body]]

/-- The boxes of the iterator between two rounds. -/
structure PiI (B1 B2 B3 : Nat) (W : World) (id : Int) (b : ByteArray) (nv : Value) : Prop where
  id : Boxed W B1 3 (.int .i64 id)
  body : Boxed W B2 9 (.string b)
  next : Boxed W B3 83 nv

/-- How much is left, off the box. -/
def strBox (W : World) (B : Nat) : Nat := match W.cell? ⟨B, 0, none⟩ with
  | some (.string s) => s.size
  | _ => 0

theorem strBox_of {W : World} {B : Nat} {s : ByteArray} (h : Boxed W B 9 (.string s)) : strBox W B = s.size := by
  unfold strBox
  rw [h.cell]

/-- What is asked of a round's yield, as one. -/
def YR (K : Nat → Prop) (J Jx : List Pc → World → Prop) (ps : List Pc) (W : World) (r : Bool) (W' : World) : Prop := (r = true → J ps W' ∧ Kept K W W') ∧ (r = false → Jx ps W')

set_option maxRecDepth 100000 in
set_option maxHeartbeats 8000000 in
theorem piecesCut_in (n : Nat) (hn : 1 ≤ n) (l n0 B1 B2 B3 Bn : Nat) (h01 : n0 ≤ B1) (h12 : B1 < B2) (h23 : B2 < B3) (hBn : Bn < n0) (id : Int) (sz : Nat) (hsz : 1 ≤ sz) (hsz2 : sz ≤ 65536) (body : ByteArray) (hbody : body.size ≤ 65536) (J Jx : List Pc → World → Prop)
    (hJ : Bears [B2] J)
    (hY : ∀ pre x W, J pre W → pre.length < (cutP id (fun _ => some sz) 0 body).length → YieldAt Fence.wide (n - 1) Try.prog l (pcV x) W fun e W' => ∃ r, e = .returned (.bool r) ∧ YR (KP n0 B1 B2 B3) J Jx (pre ++ [x]) W r W')
    (W : World) (hM : PiI B1 B2 B3 W id body (.func (.func 40) #[] #[.pointer (some ⟨Bn, 0, none⟩)])) (hN : Boxed W Bn 3 (.int .i64 sz)) (h0 : J [] W) :
    CallsIn Fence.wide n Try.prog 60 #[.func (.yield l) #[] #[], .pointer (some ⟨B3, 0, none⟩), .pointer (some ⟨B2, 0, none⟩), .pointer (some ⟨B1, 0, none⟩)] W fun e W' => (∃ v, e = .returned v) ∧
      ((∃ ys, ys = cutP id (fun _ => some sz) 0 body ∧ J ys W') ∨ (∃ pre, pre <+: cutP id (fun _ => some sz) 0 body ∧ Jx pre W')) := by
  obtain ⟨all, hall⟩ : ∃ all, cutP id (fun _ => some sz) 0 body = all := ⟨_, rfl⟩
  rw [hall] at hY
  rw [hall]
  have HALL := Lib.hid hall
  have HM := Lib.hid hM
  have HN0 := Lib.hid hN
  have HJJ := Lib.hid hJ
  have HY := Lib.hid hY
  clear hM hJ hY hN hall
  refine callsIn_of_wp Try.func60 rfl trivial ?_ rfl
  simp only [Try.ntmps60, List.size_toArray, List.length_cons, List.length_nil, Nat.reduceAdd, Nat.reduceSub, Array.replicate_succ, Array.replicate_zero, List.push_toArray, List.append_toArray, List.nil_append, List.cons_append]
  gi_wp2
  gi_loopw [5] (fun pl wr => ∃ (k : Nat) (pre : List Pc) (b : ByteArray), pl = .int .i64 k ∧ J pre wr ∧ PiI B1 B2 B3 wr id b (.func (.func 40) #[] #[.pointer (some ⟨Bn, 0, none⟩)]) ∧ Boxed wr Bn 3 (.int .i64 sz) ∧ pre ++ cutP id (fun _ => some sz) k b = all ∧ k + b.size ≤ body.size)
    (fun _ wr => strBox wr B2)
  case atStart => exact ⟨0, [], body, rfl, h0, HM.out, HN0.out, by rw [HALL.out]; rfl, by omega⟩
  case round =>
    obtain ⟨k, pre, b, rfl, hJp, hMg, hNx, hpre, hkb⟩ := hrel
    have HJ := Lib.hid hJp
    have HP := Lib.hid hpre
    have HKB := Lib.hid hkb
    have HLEN := Lib.hid (strBox_of hMg.body)
    have c1 := hMg.id.cell
    have c2 := hMg.body.cell
    have c3 := hMg.next.cell
    have f2 := hMg.body.frozen
    have lt2 := hMg.body.lt
    have HPI := Lib.hid hMg
    have NX := Lib.hid (cutNext_any Bn sz wr hNx)
    have HNX := Lib.hid hNx
    clear hJp hpre hkb hMg hNx
    by_cases hlt : sz < b.size
    · have e2 : decide (b.size ≤ sz) = false := decide_eq_false (by omega)
      have e3 : (0 : Int) ≤ (sz : Int) := by omega
      have e4 : (sz : Int) ≤ (b.size : Int) := by omega
      have e5 : (k : Int) ≤ 65536 := by have := HKB.out; omega
      have e6 : (0 : Int) ≤ (k : Int) := by omega
      have hcm := cut_more (id := id) (g := fun _ => some sz) (k := k) (b := b) rfl (by omega) hlt
      have hx1 : pre ++ [⟨id, k, true, b.extract 0 sz⟩] ++ cutP id (fun _ => some sz) (k + 1) (b.extract sz b.size) = all := by rw [← HP.out, hcm]; simp
      have HX1 := Lib.hid hx1
      have hsd := size_drop b sz
      have HSD := Lib.hid hsd
      have HLT := Lib.hid hlt
      have hl4 : pre.length < all.length := by rw [← hx1]; simp
      have hT : Turns [B2] wr wr.drew := ⟨rfl, rfl, rfl, Nat.le_refl _, fun _ _ _ => rfl⟩
      obtain ⟨fn, tmps, assign, bdy, hy, hR⟩ := HY.out pre ⟨id, k, true, b.extract 0 sz⟩ _ (HJJ.out _ _ _ HJ.out hT) hl4
      have HR := Lib.hid hR
      clear hcm hx1 hsd hlt hl4 hR hT
      unfold pcV at hy
      simp only at hy
      gi_wp2_with (refine ⟨trivial, ?_⟩; gi_at_call 40; refine (callsIn_wide.2 NX.out).mono ?_; rintro e w1 ⟨rfl, rfl⟩)
      have HYY := Lib.hid hy
      clear hy
      gi_region_with (rw [HYY.out]; refine ⟨fun _ => hn, HR.out.mono ?_⟩; rintro e W5 ⟨r, rfl, h5⟩; have H5 := Lib.hid h5; clear h5)
      all_goals
       clear c1 c2 c3 f2 lt2
       cases r with
       | true =>
        obtain ⟨hJ5, hk5⟩ := H5.out.1 rfl
        have b1 : Boxed W5 B1 3 (.int .i64 id) := (hk5 B1 (.inr (.inl rfl))).trans HPI.out.id
        have b2 : Boxed W5 B2 9 (.string b) := (hk5 B2 (.inr (.inr (.inl rfl)))).trans HPI.out.body
        have b3 : Boxed W5 B3 83 (.func (.func 40) #[] #[.pointer (some ⟨Bn, 0, none⟩)]) := (hk5 B3 (.inr (.inr (.inr rfl)))).trans HPI.out.next
        have bn : Boxed W5 Bn 3 (.int .i64 sz) := (hk5 Bn (.inl hBn)).trans HNX.out
        have c2 := b2.cell
        have f2 := b2.frozen
        have HB1 := Lib.hid b1
        have HB2 := Lib.hid b2
        have HB3 := Lib.hid b3
        have HBN := Lib.hid bn
        have HJ5 := Lib.hid hJ5
        clear hJ5 hk5 b1 b2 b3 bn
        gi_wp2
        have hJ6 := HJJ.out _ _ _ HJ5.out ((Turns.refl [B2] W5).set B2 0 (.string (b.extract sz b.size)) (.inl (by simp)))
        have q1 := Boxed.cell_other HB1.out B2 0 (.string (b.extract sz b.size)) (by omega)
        have q2 := Boxed.set (.string (b.extract sz b.size)) HB2.out
        have q3 := Boxed.cell_other HB3.out B2 0 (.string (b.extract sz b.size)) (by omega)
        have qn := Boxed.cell_other HBN.out B2 0 (.string (b.extract sz b.size)) (by omega)
        go_roundw
        case rel => exact ⟨k + 1, _, b.extract sz b.size, by go_num, hJ6, ⟨q1, q2, q3⟩, qn, HX1.out, by have := HSD.out; have := HKB.out; have := HLT.out; omega⟩
        case measure => rw [HLEN.out, strBox_of q2, HSD.out]; have := HLT.out; omega
       | false =>
        gi_wp2
        refine bodyPost_ret (results_none rfl _ _ _) rfl ?_
        exact ⟨⟨_, rfl⟩, .inr ⟨_, ⟨_, HX1.out⟩, H5.out.2 rfl⟩⟩
    · have e1 : (b.size : Int) ≤ (sz : Int) := by omega
      have e2 : decide ((b.size : Int) ≤ (sz : Int)) = true := decide_eq_true e1
      have hcm := cut_last (id := id) (g := fun _ => some sz) (k := k) (b := b) rfl (by omega)
      have hx1 : pre ++ [⟨id, k, false, b⟩] = all := by rw [← HP.out, hcm]
      have HX1 := Lib.hid hx1
      have hl4 : pre.length < all.length := by rw [← hx1]; simp
      obtain ⟨fn, tmps, assign, bdy, hy, hR⟩ := HY.out pre ⟨id, k, false, b⟩ _ HJ.out hl4
      have HR := Lib.hid hR
      clear hcm hx1 hlt hl4 hR
      unfold pcV at hy
      simp only at hy
      gi_wp2_with (refine ⟨trivial, ?_⟩; gi_at_call 40; refine (callsIn_wide.2 NX.out).mono ?_; rintro e w1 ⟨rfl, rfl⟩)
      refine HR.out.mono ?_
      rintro e W5 ⟨r, rfl, h5⟩
      have H5 := Lib.hid h5
      clear h5
      gi_wp2
      refine bodyPost_ret (results_none rfl _ _ _) rfl ?_
      refine ⟨⟨_, rfl⟩, ?_⟩
      cases r with
      | true => exact .inl ⟨_, HX1.out, (H5.out.1 rfl).1⟩
      | false => exact .inr ⟨_, ⟨[], by rw [List.append_nil]; exact HX1.out⟩, H5.out.2 rfl⟩

end Go.Proofs.Yteblbpdpfegooaa
