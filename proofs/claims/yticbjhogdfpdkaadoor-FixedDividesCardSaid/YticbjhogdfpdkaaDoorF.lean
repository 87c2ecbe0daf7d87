/- The iterator over pairs of digits: its contract for whatever body. -/
import Derived.Test.YticbjhogdfpdkaaDoorE
namespace Go.Proofs.YticbjhogdfpdkaaDoor
set_option maxRecDepth 8000
open Go.RowKit Go.Shelf
attribute [local go_sem] Oper.semAt_some

/-- A place and its two digits. -/
def pV (n m : Nat) (k : Nat) : Array Value := #[.int .i64 k, .agg #[.int .u8 (dig n k), .int .u8 (dig m k)]]
/-- What a round must keep. -/
def KP (B1 B2 A B k : Nat) : Prop := k = B1 ∨ k = B2 ∨ k = A ∨ k = B
structure PtI (B1 B2 A B n m : Nat) (W : World) : Prop where
  a : Boxed W B1 87 (.pointer (some ⟨A, 0, none⟩))
  b : Boxed W B2 87 (.pointer (some ⟨B, 0, none⟩))
  da : DigAt W A n
  db : DigAt W B m
theorem PtI.kept {B1 B2 A B n m : Nat} {W W' : World} (h : PtI B1 B2 A B n m W) (hk : Kept (KP B1 B2 A B) W W') : PtI B1 B2 A B n m W' :=
  ⟨(hk B1 (.inl rfl)).trans h.a, (hk B2 (.inr (.inl rfl))).trans h.b, h.da.same (hk A (.inr (.inr (.inl rfl)))), h.db.same (hk B (.inr (.inr (.inr rfl))))⟩
theorem PtI.turned {B1 B2 A B n m : Nat} {W W' : World} (h : PtI B1 B2 A B n m W) (ht : Turns [] W W') : PtI B1 B2 A B n m W' :=
  h.kept fun k hk => ht.block k (by rcases hk with rfl | rfl | rfl | rfl; exact h.a.lt; exact h.b.lt; exact h.da.lt; exact h.db.lt) (by simp)
/-- What is asked of a round's yield, as one. -/
def YR (K : Nat → Prop) (J Jx : List Nat → World → Prop) (ps : List Nat) (W : World) (r : Bool) (W' : World) : Prop := (r = true → J ps W' ∧ Kept K W W') ∧ (r = false → Jx ps W')
theorem yield_one {n l : Nat} {args : Array Value} {W : World} {K : Nat → Prop} {J Jx : List Nat → World → Prop} {ps : List Nat}
    (h : YieldAt Fence.wide (n - 1) Tryd.prog l args W fun e W' => (e = .returned (.bool true) ∧ J ps W' ∧ Kept K W W') ∨ (e = .returned (.bool false) ∧ Jx ps W')) :
    YieldAt Fence.wide (n - 1) Tryd.prog l args W fun e W' => ∃ r, e = .returned (.bool r) ∧ YR K J Jx ps W r W' := by
  obtain ⟨fn, tmps, assign, body, hy, hR⟩ := h
  refine ⟨fn, tmps, assign, body, hy, hR.mono fun e W' hh => ?_⟩
  rcases hh with ⟨h1, h2, h3⟩ | ⟨h1, h2⟩
  · exact ⟨true, h1, (fun _ => ⟨h2, h3⟩), (fun h => by cases h)⟩
  · exact ⟨false, h1, (fun h => by cases h), fun _ => h2⟩

set_option maxRecDepth 100000 in
set_option maxHeartbeats 8000000 in
theorem pairs_in (n : Nat) (hn : 1 ≤ n) (l B1 B2 A B a b : Nat) (J Jx : List Nat → World → Prop) (hJ : Bears [] J)
    (hY : ∀ pre k W, J pre W → (pre = List.range k ∧ k < 128) → YieldAt Fence.wide (n - 1) Tryd.prog l (pV a b k) W fun e W' => ∃ r, e = .returned (.bool r) ∧ YR (KP B1 B2 A B) J Jx (pre ++ [k]) W r W')
    (W : World) (hM : PtI B1 B2 A B a b W) (h0 : J [] W) :
    CallsIn Fence.wide n Tryd.prog 117 #[.func (.yield l) #[] #[], .pointer (some ⟨B1, 0, none⟩), .pointer (some ⟨B2, 0, none⟩)] W fun e W' => (∃ v, e = .returned v) ∧
      ((∃ ys, ys = List.range 128 ∧ J ys W') ∨ (∃ pre, True ∧ Jx pre W')) := by
  have HM := Lib.hid hM
  have HJJ := Lib.hid hJ
  have HY := Lib.hid hY
  clear hM hJ hY
  refine callsIn_of_wp Tryd.func117 rfl trivial ?_ rfl
  simp only [Tryd.ntmps117, List.size_toArray, List.length_cons, List.length_nil, Nat.reduceAdd, Nat.reduceSub, Array.replicate_succ, Array.replicate_zero, List.push_toArray, List.append_toArray, List.nil_append, List.cons_append]
  gi_wp2
  gi_loopw [5] (fun pl wr => ∃ k : Nat, pl = .int .i64 k ∧ k ≤ 128 ∧ PtI B1 B2 A B a b wr ∧ J (List.range k) wr)
    (fun i _ => 128 - (intOf i).toNat)
  case atStart => exact ⟨0, rfl, by omega, HM.out, h0⟩
  case round =>
    obtain ⟨k, rfl, hk, hMg, hJp⟩ := hrel
    by_cases hlt : k < 128
    · have HPI := Lib.hid hMg
      have HK := Lib.hid hlt
      have HJ := Lib.hid hJp
      have c1 := hMg.a.cell
      have c2 := hMg.b.cell
      have d1 := hMg.da k hlt
      have d2 := hMg.db k hlt
      have e1 : (0 : Int) ≤ (k : Int) := by omega
      have e2 : (k : Int) < 128 := by omega
      have hT : Turns [] wr wr.drew := ⟨rfl, rfl, rfl, Nat.le_refl _, fun _ _ _ => rfl⟩
      obtain ⟨fn, tmps, assign, bdy, hy, hR⟩ := HY.out (List.range k) k _ (HJJ.out _ _ _ HJ.out hT) ⟨rfl, hlt⟩
      have HR := Lib.hid hR
      have HT := Lib.hid hT
      unfold pV at hy
      have HYY := Lib.hid hy
      obtain ⟨x, hx⟩ : ∃ x, dig a k = x := ⟨_, rfl⟩
      obtain ⟨y, hy2⟩ : ∃ y, dig b k = y := ⟨_, rfl⟩
      rw [hx] at d1 HYY
      rw [hy2] at d2 HYY
      clear hMg hJp hlt hR hT hy hx hy2
      gi_wp2
      gi_region_with (rw [HYY.out]; refine ⟨fun _ => hn, HR.out.mono ?_⟩; rintro e W5 ⟨r, rfl, h5⟩; have H5 := Lib.hid h5; clear h5)
      all_goals
       clear c1 c2 d1 d2
       cases r with
       | true =>
        have hk5 := H5.out.1 rfl
        gi_wp2
        go_roundw
        case rel => exact ⟨k + 1, by go_num, HK.out, (HPI.out.turned HT.out).kept hk5.2, by rw [List.range_succ]; exact hk5.1⟩
        case measure => simp [intOf]; have := HK.out; omega
       | false =>
        gi_wp2
        refine bodyPost_ret (results_none rfl _ _ _) rfl ?_
        exact ⟨⟨_, rfl⟩, .inr ⟨_, trivial, H5.out.2 rfl⟩⟩
    · obtain rfl : k = 128 := by omega
      have HJ := Lib.hid hJp
      clear hJp hMg
      gi_wp2
      go_end0
      exact ⟨⟨_, rfl⟩, .inl ⟨_, rfl, HJ.out⟩⟩

theorem pairs_any (A B : Nat) (w : World) : Calls Tryd.prog 106 #[.pointer (some ⟨A, 0, none⟩), .pointer (some ⟨B, 0, none⟩)] w fun e w' => e = .returned (.func (.func 117) #[] #[.pointer (some ⟨w.heap.size, 0, none⟩), .pointer (some ⟨w.heap.size + 1, 0, none⟩)]) ∧ w' = (w.alloc (.cells #[.pointer (some ⟨A, 0, none⟩)] 87)).alloc (.cells #[.pointer (some ⟨B, 0, none⟩)] 87) := by
  go_enter Tryd.func106, Tryd.ntmps106
  go_wp2_with fail
  go_ret
  exact ⟨rfl, rfl⟩

end Go.Proofs.YticbjhogdfpdkaaDoor
