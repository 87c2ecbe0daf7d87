/- Of. -/
import Derived.Test.YticbjhogdfpdkaaDoorZe
namespace Go.Proofs.YticbjhogdfpdkaaDoor
set_option maxRecDepth 8000
open Go.RowKit Go.Shelf

theorem wpList_build45 {ops : Array Oper} {rest : List Oper} {o : Oper} {a : Act} {w : World} {Q : Exit → Act → World → Prop} (hg : o.guard = none) (x y z : Operand) (ho : o.op = .build 45 #[(0, x), (1, y), (2, z)]) (n : Nat) (s : Int) (b : Bool)
    (hx : a.eval x = .agg (dC n)) (hy : a.eval y = .int .i64 s) (hz : a.eval z = .bool b) (h : wpList Tryd.prog ops Q rest (a.put o.dst (.agg (nC n s b))) w) : wpList Tryd.prog ops Q (o :: rest) a w :=
  wpList_plain hg fun _ hK => wp_build45 x y z ho n s b hx hy hz (hK _ _ h)

def isScl (n : Int) : Bool := decide (0 ≤ n) && decide (n ≤ 31)
set_option maxRecDepth 100000 in
set_option maxHeartbeats 2000000 in
theorem isScale_any (n : Int) (w : World) : Calls Tryd.prog 50 #[.int .i64 n] w fun e w' => e = .returned (.bool (isScl n)) ∧ w = w' := by
  by_cases h1 : 0 ≤ n
  · by_cases h2 : n ≤ 31
    · have hr : isScl n = true := by unfold isScl; rw [decide_eq_true h1, decide_eq_true h2]; rfl
      rw [hr]
      go_enter Tryd.func50, Tryd.ntmps50
      go_wp2_with fail
      go_ret
      exact ⟨rfl, rfl⟩
    · have hr : isScl n = false := by unfold isScl; rw [decide_eq_true h1, decide_eq_false h2]; rfl
      rw [hr]
      have h3 : ¬ n ≤ 31 := h2
      go_enter Tryd.func50, Tryd.ntmps50
      go_wp2_with fail
      go_ret
      exact ⟨rfl, rfl⟩
  · have hr : isScl n = false := by unfold isScl; rw [decide_eq_false h1]; rfl
    rw [hr]
    go_enter Tryd.func50, Tryd.ntmps50
    go_wp2_with fail
    go_ret
    exact ⟨rfl, rfl⟩

theorem itoa_cut (n : Int) : Lib.trimPrefix (Lib.itoa n) [45] = decT n.natAbs (Lib.nDigits n.natAbs) := by
  have hp : Lib.hasPrefix (Lib.decDigits n.natAbs) [45] = false := by
    rw [(dec_digits n.natAbs).1]
    cases hk : Lib.nDigits n.natAbs with
    | zero => rfl
    | succ k => simp [decT, Lib.hasPrefix, List.isPrefixOf, Ne.symm (ch_ne45 _ (dig_lt n.natAbs k))]
  rw [← (dec_digits n.natAbs).1]
  unfold Lib.itoa Lib.trimPrefix
  split
  · have : Lib.hasPrefix (45 :: Lib.decDigits n.natAbs) [45] = true := by simp [Lib.hasPrefix, List.isPrefixOf]
    rw [if_pos this]
    rfl
  · have e : n.toNat = n.natAbs := by omega
    rw [e, hp]
    rfl
theorem nDigits_le (n : Int) (h1 : -9223372036854775808 ≤ n) (h2 : n ≤ 9223372036854775807) : Lib.nDigits n.natAbs ≤ 21 := by
  have := Lib.itoa_length_le n h1 h2
  rw [← Lib.decDigits_length]
  unfold Lib.itoa at this
  split at this
  · rw [List.length_cons] at this; omega
  · have e : n.toNat = n.natAbs := by omega
    rwa [e] at this

set_option maxRecDepth 100000 in
set_option maxHeartbeats 4000000 in
theorem of_any (n s : Int) (w : World) (h : Env w) (h1 : -9223372036854775808 ≤ n) (h2 : n ≤ 9223372036854775807) :
    Calls Tryd.prog 36 #[.int .i64 n, .int .i64 s] w fun e w' => e = .returned (.tuple #[.string (if isScl s = true then txtZ n s.toNat else ⟨#[]⟩), .int .i64 (if isScl s = true then 0 else 7)]) ∧ Below w.heap.size w w' := by
  have IS := Lib.hid (isScale_any s w)
  by_cases hs : isScl s = true
  · have IT := Lib.hid (itoa_any n w h h1 h2)
    have hk := nDigits_le n h1 h2
    have TP := Lib.hid fun wx => Tryd.strings_TrimPrefix (⟨(Lib.itoa n).toArray⟩ : ByteArray) ⟨#[45]⟩ wx
    have e1 : (⟨(Lib.trimPrefix (⟨(Lib.itoa n).toArray⟩ : ByteArray).data.toList (⟨#[45]⟩ : ByteArray).data.toList).toArray⟩ : ByteArray) = txD n.natAbs (Lib.nDigits n.natAbs) := by
      show (⟨(Lib.trimPrefix (Lib.itoa n) [45]).toArray⟩ : ByteArray) = _
      rw [itoa_cut]
      rfl
    rw [e1] at TP
    have OT := Lib.hid fun wx => ofText_any n.natAbs (Lib.nDigits n.natAbs) wx (dec_digits n.natAbs).2 (by omega)
    have hlt : n.natAbs < 10 ^ 128 := Nat.lt_of_lt_of_le (dec_digits n.natAbs).2 (Nat.pow_le_pow_right (by decide) (by omega))
    have hs2 : 0 ≤ s ∧ s ≤ 31 := by
      unfold isScl at hs
      rw [Bool.and_eq_true, decide_eq_true_eq, decide_eq_true_eq] at hs
      exact hs
    obtain ⟨k, rfl⟩ : ∃ k : Nat, s = k := ⟨s.toNat, by omega⟩
    have TX := Lib.hid fun wx => text_any n.natAbs k (decide (n < 0)) wx hlt (by omega)
    rw [hs] at IS ⊢
    rw [if_pos rfl, if_pos rfl, Int.toNat_natCast]
    unfold txtZ
    generalize txt (decide (n < 0)) n.natAbs k = T at TX ⊢
    generalize txD n.natAbs (Lib.nDigits n.natAbs) = t2 at TP OT
    generalize (⟨(Lib.itoa n).toArray⟩ : ByteArray) = t1 at IT TP
    generalize n.natAbs = m at OT TX
    obtain ⟨b, hb⟩ : ∃ b, decide (n < 0) = b := ⟨_, rfl⟩
    rw [hb] at TX
    clear e1 hk hlt hs2 h h1 h2 hs
    go_enter Tryd.func36, Tryd.ntmps36
    go_wp2_with (first
      | (go_at_call 50; refine IS.out.mono ?_; rintro e w1 ⟨rfl, rfl⟩)
      | (go_at_call 73; refine IT.out.mono ?_; rintro e w2 ⟨rfl, hb2⟩; have B2 := Lib.hid hb2; clear hb2)
      | (go_at_call 72; refine (TP.out _).mono ?_; rintro e w3 ⟨rfl, rfl⟩)
      | (go_at_call 74; refine (OT.out _).mono ?_; rintro e w4 ⟨rfl, hb4⟩; have B4 := Lib.hid (B2.out.trans (hb4.mono B2.out.size)); clear hb4)
      | refine wpList_build45 rfl _ _ _ rfl m (k : Int) b rfl rfl rfl ?_
      | (go_at_call 70; refine (TX.out _).mono ?_; rintro e w5 ⟨rfl, hb5⟩; have B5 := Lib.hid (B4.out.trans (hb5.mono B4.out.size)); clear hb5))
    go_ret2
    exact ⟨rfl, B5.out⟩
  · have hsf : isScl s = false := by simpa using hs
    rw [hsf] at IS ⊢
    rw [if_neg (by decide), if_neg (by decide)]
    clear h h1 h2 hs
    go_enter Tryd.func36, Tryd.ntmps36
    go_wp2_with (go_at_call 50; refine IS.out.mono ?_; rintro e w1 ⟨rfl, rfl⟩)
    go_ret2
    exact ⟨rfl, Below.refl _ _⟩

end Go.Proofs.YticbjhogdfpdkaaDoor
