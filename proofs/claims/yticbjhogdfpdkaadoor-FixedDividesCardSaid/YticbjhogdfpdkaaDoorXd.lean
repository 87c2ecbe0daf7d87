/- The law FixedDivides. -/
import Derived.Test.YticbjhogdfpdkaaDoorXc
import Derived.Test.YticbjhogdfpdkaaDoorZp
namespace Go.Proofs.YticbjhogdfpdkaaDoor
set_option maxRecDepth 8000
open Go.RowKit Go.Shelf

set_option maxRecDepth 100000 in
set_option maxHeartbeats 8000000 in
theorem divides_out (m n s t : Int) (w : World) (h : Env w) (hout : outE s t = true) :
    Calls Tryd.prog 7 #[.int .i64 m, .int .i64 n, .int .i64 s, .int .i64 t] w fun e w' => e = .returned (.bool true) ∧ Below w.heap.size w w' := by
  have O1 := Lib.hid (of_any (m.tmod 10000000000) s w h (rem_bounds m).1 (rem_bounds m).2)
  have O2 := Lib.hid fun wx (hx : Below w.heap.size w wx) => of_any (n.tmod 10000000000) t wx (h.below hx) (rem_bounds n).1 (rem_bounds n).2
  have AW := Lib.hid fun wx (hx : Below w.heap.size w wx) => awake_any wx (h.below hx)
  have OE : outE s t = (!(isScl s) || !(isScl t) || decide (10 < s) || decide (10 < t)) := rfl
  rw [hout] at OE
  generalize isScl s = f at O1 OE
  generalize isScl t = g at O2 OE
  clear h hout
  go_enter Tryd.func7, Tryd.ntmps7
  cases f with
  | false =>
    rw [if_neg (by decide), if_neg (by decide)] at O1
    generalize (if g = true then txtZ (n.tmod 10000000000) t.toNat else ⟨#[]⟩) = T2 at O2
    generalize (if g = true then (0 : Int) else 7) = E2 at O2
    clear OE
    go_wp2_with (first | (go_at_call 36; (fail_if_success (have := B1)); refine O1.out.mono ?_; rintro e w1 ⟨rfl, hb⟩; have B1 := Lib.hid hb; clear hb) | (go_at_call 36; refine (O2.out _ B1.out).mono ?_; rintro e w2 ⟨rfl, hb⟩; have B2 := Lib.hid (B1.out.trans (hb.mono B1.out.size)); clear hb) | (go_at_call 9; refine (AW.out _ B2.out).mono ?_; rintro e w3 ⟨rfl, hb⟩; have B3 := Lib.hid (B2.out.trans (hb.mono B2.out.size)); clear hb))
    go_ret
    exact ⟨rfl, B3.out⟩
  | true =>
    rw [if_pos rfl, if_pos rfl] at O1
    cases g with
    | false =>
      rw [if_neg (by decide), if_neg (by decide)] at O2
      generalize txtZ (m.tmod 10000000000) s.toNat = T1 at O1
      clear OE
      go_wp2_with (first | (go_at_call 36; (fail_if_success (have := B1)); refine O1.out.mono ?_; rintro e w1 ⟨rfl, hb⟩; have B1 := Lib.hid hb; clear hb) | (go_at_call 36; refine (O2.out _ B1.out).mono ?_; rintro e w2 ⟨rfl, hb⟩; have B2 := Lib.hid (B1.out.trans (hb.mono B1.out.size)); clear hb) | (go_at_call 9; refine (AW.out _ B2.out).mono ?_; rintro e w3 ⟨rfl, hb⟩; have B3 := Lib.hid (B2.out.trans (hb.mono B2.out.size)); clear hb))
      go_ret
      exact ⟨rfl, B3.out⟩
    | true =>
      rw [if_pos rfl, if_pos rfl] at O2
      generalize txtZ (m.tmod 10000000000) s.toNat = T1 at O1
      generalize txtZ (n.tmod 10000000000) t.toNat = T2 at O2
      by_cases h1 : 10 < s
      · clear OE
        go_wp2_with (first | (go_at_call 36; (fail_if_success (have := B1)); refine O1.out.mono ?_; rintro e w1 ⟨rfl, hb⟩; have B1 := Lib.hid hb; clear hb) | (go_at_call 36; refine (O2.out _ B1.out).mono ?_; rintro e w2 ⟨rfl, hb⟩; have B2 := Lib.hid (B1.out.trans (hb.mono B1.out.size)); clear hb) | (go_at_call 9; refine (AW.out _ B2.out).mono ?_; rintro e w3 ⟨rfl, hb⟩; have B3 := Lib.hid (B2.out.trans (hb.mono B2.out.size)); clear hb))
        go_ret
        exact ⟨rfl, B3.out⟩
      · rw [decide_eq_false h1] at OE
        have h2 : 10 < t := by simpa using OE.symm
        clear OE
        go_wp2_with (first | (go_at_call 36; (fail_if_success (have := B1)); refine O1.out.mono ?_; rintro e w1 ⟨rfl, hb⟩; have B1 := Lib.hid hb; clear hb) | (go_at_call 36; refine (O2.out _ B1.out).mono ?_; rintro e w2 ⟨rfl, hb⟩; have B2 := Lib.hid (B1.out.trans (hb.mono B1.out.size)); clear hb) | (go_at_call 9; refine (AW.out _ B2.out).mono ?_; rintro e w3 ⟨rfl, hb⟩; have B3 := Lib.hid (B2.out.trans (hb.mono B2.out.size)); clear hb))
        go_ret
        exact ⟨rfl, B3.out⟩

set_option maxRecDepth 100000 in
set_option maxHeartbeats 8000000 in
theorem divides_none (m n : Int) (s t : Nat) (w : World) (h : Env w) (hs : s ≤ 10) (ht : t ≤ 10) (HZ : n.tmod 10000000000 = 0) :
    Calls Tryd.prog 7 #[.int .i64 m, .int .i64 n, .int .i64 s, .int .i64 t] w fun e w' => e = .returned (.bool true) ∧ Below w.heap.size w w' := by
  have O1 := Lib.hid (of_any (m.tmod 10000000000) s w h (rem_bounds m).1 (rem_bounds m).2)
  have O2 := Lib.hid fun wx (hx : Below w.heap.size w wx) => of_any (n.tmod 10000000000) t wx (h.below hx) (rem_bounds n).1 (rem_bounds n).2
  have AW := Lib.hid fun wx (hx : Below w.heap.size w wx) => awake_any wx (h.below hx)
  have s1 : isScl (s : Int) = true := by unfold isScl; rw [decide_eq_true (by omega), decide_eq_true (by omega)]; rfl
  have s2 : isScl (t : Int) = true := by unfold isScl; rw [decide_eq_true (by omega), decide_eq_true (by omega)]; rfl
  rw [s1, if_pos rfl, if_pos rfl, Int.toNat_natCast] at O1
  rw [s2, if_pos rfl, if_pos rfl, Int.toNat_natCast] at O2
  have hM := rem_small m
  have hN := rem_small n
  obtain ⟨M, eM⟩ : ∃ M, m.tmod 10000000000 = M := ⟨_, rfl⟩
  obtain ⟨N, eN⟩ : ∃ N, n.tmod 10000000000 = N := ⟨_, rfl⟩
  rw [eM] at O1 hM
  rw [eN] at O2 hN HZ
  have dM := DecT.of hM hs
  have dN := DecT.of hN ht
  have hs10 : ¬ (10 : Int) < (s : Int) := by omega
  have ht10 : ¬ (10 : Int) < (t : Int) := by omega
  subst HZ
  have DV := Lib.hid fun wx (hx : Below w.heap.size w wx) => div_none dM dN wx (h.below hx)
  have RM := Lib.hid fun wx (hx : Below w.heap.size w wx) => rem_none dM dN wx (h.below hx)
  generalize txtZ M s = tM at O1 DV RM
  generalize txtZ 0 t = tN at O2 DV RM
  clear hM hN dM dN hs ht s1 s2 h
  go_enter Tryd.func7, Tryd.ntmps7
  go_wp2_with (first | (go_at_call 36; (fail_if_success (have := B1)); refine O1.out.mono ?_; rintro e w1 ⟨rfl, hb⟩; have B1 := Lib.hid hb; clear hb) | (go_at_call 36; refine (O2.out _ B1.out).mono ?_; rintro e w2 ⟨rfl, hb⟩; have B2 := Lib.hid (B1.out.trans (hb.mono B1.out.size)); clear hb) | (go_at_call 18; refine (DV.out _ B2.out).mono ?_; rintro e w3 ⟨rfl, hb⟩; have B3 := Lib.hid (B2.out.trans (hb.mono B2.out.size)); clear hb) | (go_at_call 20; refine (RM.out _ B3.out).mono ?_; rintro e w4 ⟨rfl, hb⟩; have B4 := Lib.hid (B3.out.trans (hb.mono B3.out.size)); clear hb) | (go_at_call 9; refine (AW.out _ B4.out).mono ?_; rintro e w5 ⟨rfl, hb⟩; have B5 := Lib.hid (B4.out.trans (hb.mono B4.out.size)); clear hb))
  go_ret
  exact ⟨rfl, B5.out⟩

set_option maxRecDepth 100000 in
set_option maxHeartbeats 8000000 in
theorem divides_in (m n : Int) (s t : Nat) (w : World) (h : Env w) (hs : s ≤ 10) (ht : t ≤ 10) (HZ : ¬ n.tmod 10000000000 = 0) :
    Calls Tryd.prog 7 #[.int .i64 m, .int .i64 n, .int .i64 s, .int .i64 t] w fun e w' => e = .returned (.bool true) ∧ Below w.heap.size w w' := by
  have O1 := Lib.hid (of_any (m.tmod 10000000000) s w h (rem_bounds m).1 (rem_bounds m).2)
  have O2 := Lib.hid fun wx (hx : Below w.heap.size w wx) => of_any (n.tmod 10000000000) t wx (h.below hx) (rem_bounds n).1 (rem_bounds n).2
  have AW := Lib.hid fun wx (hx : Below w.heap.size w wx) => awake_any wx (h.below hx)
  have s1 : isScl (s : Int) = true := by unfold isScl; rw [decide_eq_true (by omega), decide_eq_true (by omega)]; rfl
  have s2 : isScl (t : Int) = true := by unfold isScl; rw [decide_eq_true (by omega), decide_eq_true (by omega)]; rfl
  rw [s1, if_pos rfl, if_pos rfl, Int.toNat_natCast] at O1
  rw [s2, if_pos rfl, if_pos rfl, Int.toNat_natCast] at O2
  have hM := rem_small m
  have hN := rem_small n
  obtain ⟨M, eM⟩ : ∃ M, m.tmod 10000000000 = M := ⟨_, rfl⟩
  obtain ⟨N, eN⟩ : ∃ N, n.tmod 10000000000 = N := ⟨_, rfl⟩
  rw [eM] at O1 hM
  rw [eN] at O2 hN HZ
  have dM := DecT.of hM hs
  have dN := DecT.of hN ht
  have hs10 : ¬ (10 : Int) < (s : Int) := by omega
  have ht10 : ¬ (10 : Int) < (t : Int) := by omega
  obtain ⟨Z, hZ⟩ : ∃ Z, max s t = Z := ⟨_, rfl⟩
  have z1 : t - s = Z - s := by omega
  have z2 : s - t = Z - t := by omega
  have m1 : max t Z = Z := by omega
  have m2 : max Z s = Z := by omega
  have m3 : max Z t = Z := by omega
  have x1 : (M * 10 ^ (Z - s)).natAbs < 10 ^ 20 := lift_lt hM (by omega)
  have x2 : N.natAbs ≤ (N * 10 ^ (Z - t)).natAbs := by
    rw [Int.natAbs_mul, Int.natAbs_pow]
    exact Nat.le_mul_of_pos_right _ (pow_pos _)
  have x3 : (N * 10 ^ (Z - t)).natAbs = N.natAbs * 10 ^ (Z - t) := by rw [Int.natAbs_mul, Int.natAbs_pow]; rfl
  have eD : divV M N s t = (M * 10 ^ (Z - s)).tdiv (N * 10 ^ (Z - t)) := by unfold divV; rw [z1, z2]
  have eR : modV M N s t = (M * 10 ^ (Z - s)).tmod (N * 10 ^ (Z - t)) := by unfold modV; rw [hZ]
  obtain ⟨A, hA⟩ : ∃ A, M * 10 ^ (Z - s) = A := ⟨_, rfl⟩
  obtain ⟨B, hB⟩ : ∃ B, N * 10 ^ (Z - t) = B := ⟨_, rfl⟩
  rw [hA] at x1 eD eR
  rw [hB] at x2 x3 eD eR
  have q1 : (A.tdiv B).natAbs = A.natAbs / B.natAbs := Int.natAbs_tdiv A B
  have q2 : (A.tmod B).natAbs = A.natAbs % B.natAbs := Int.natAbs_tmod A B
  have q3 : B * A.tdiv B + A.tmod B = A := Int.mul_tdiv_add_tmod A B
  have hB0 : 0 < B.natAbs := by omega
  have q4 : A.natAbs % B.natAbs < B.natAbs := Nat.mod_lt _ hB0
  have q5 : A.natAbs / B.natAbs * B.natAbs ≤ A.natAbs := Nat.div_mul_le_self _ _
  have q6 : A.natAbs / B.natAbs * N.natAbs ≤ A.natAbs / B.natAbs * B.natAbs := Nat.mul_le_mul_left _ x2
  have q7 : A.natAbs / B.natAbs ≤ A.natAbs := Nat.div_le_self _ _
  have q8 : A.natAbs % B.natAbs ≤ A.natAbs := Nat.mod_le _ _
  obtain ⟨Q, hQ⟩ : ∃ Q, A.tdiv B = Q := ⟨_, rfl⟩
  obtain ⟨R, hR⟩ : ∃ R, A.tmod B = R := ⟨_, rfl⟩
  rw [hQ] at q1 q3 eD
  rw [hR] at q2 q3 eR
  have bQ : Q.natAbs < 10 ^ 31 := by omega
  have bR : R.natAbs < 10 ^ 31 := by omega
  have bP : (Q * N).natAbs < 10 ^ 31 := by rw [Int.natAbs_mul, q1]; omega
  have dQ : DecT Q 0 := ⟨bQ, by omega⟩
  have dP : DecT (Q * N) t := ⟨bP, by omega⟩
  have dR : DecT R Z := ⟨bR, by omega⟩
  have dA : DecT A Z := ⟨by omega, by omega⟩
  have dU : DecT (R.natAbs : Int) Z := ⟨by rw [Int.natAbs_natCast]; exact bR, by omega⟩
  have dW : DecT (N.natAbs : Int) t := ⟨by rw [Int.natAbs_natCast]; omega, by omega⟩
  have eX : addV (Q * N) R t Z = A := by
    unfold addV
    rw [m1, Nat.sub_self, Int.pow_zero, Int.mul_one, Int.mul_assoc, hB, Int.mul_comm Q B]
    exact q3
  have eK : (subV A M Z s).sign = 0 := by
    unfold subV
    rw [m2, Nat.sub_self, Int.pow_zero, Int.mul_one, hA, Int.sub_self]
    rfl
  have eL : (subV (R.natAbs : Int) (N.natAbs : Int) Z t).sign = -1 := by
    refine Int.sign_eq_neg_one_of_neg ?_
    unfold subV
    rw [m3, Nat.sub_self, Int.pow_zero, Int.mul_one]
    have e : ((N.natAbs : Nat) : Int) * 10 ^ (Z - t) = ((B.natAbs : Nat) : Int) := by rw [x3, Int.natCast_mul, Int.natCast_pow]; rfl
    rw [e]
    omega
  have DV := Lib.hid fun wx (hx : Below w.heap.size w wx) => div_txt dM dN HZ (by rw [eD]; exact bQ) wx (h.below hx)
  have RM := Lib.hid fun wx (hx : Below w.heap.size w wx) => rem_txt dM dN HZ (by rw [eR]; exact bR) wx (h.below hx)
  have MU := Lib.hid fun wx (hx : Below w.heap.size w wx) => mul_txt dQ dN bP (by omega) wx (h.below hx)
  have AD := Lib.hid fun wx (hx : Below w.heap.size w wx) => add_txt dP dR (by rw [eX]; exact dA.v) wx (h.below hx)
  have C1 := Lib.hid fun wx (hx : Below w.heap.size w wx) => cmp_txt dA dM wx (h.below hx)
  have U1 := Lib.hid fun wx (hx : Below w.heap.size w wx) => abs_txt dR wx (h.below hx)
  have U2 := Lib.hid fun wx (hx : Below w.heap.size w wx) => abs_txt dN wx (h.below hx)
  have C2 := Lib.hid fun wx (hx : Below w.heap.size w wx) => cmp_txt dU dW wx (h.below hx)
  rw [eD] at DV
  rw [eR, hZ] at RM
  rw [Nat.zero_add] at MU
  rw [eX, m1] at AD
  rw [eK] at C1
  rw [eL] at C2
  have hz2 : (N == 0) = false := beq_false_of_ne HZ
  generalize txtZ Q 0 = tQ at DV MU
  generalize txtZ (Q * N) t = tP at MU AD
  generalize txtZ A Z = tA at AD C1
  generalize txtZ (R.natAbs : Int) Z = tU at U1 C2
  generalize txtZ (N.natAbs : Int) t = tW at U2 C2
  generalize txtZ R Z = tR at RM AD U1
  generalize txtZ M s = tM at O1 DV RM C1
  generalize txtZ N t = tN at O2 DV RM MU U2
  clear hM hN dM dN hs ht s1 s2 h z1 z2 m1 m2 m3 x1 x2 x3 eD eR hA hB q1 q2 q3 hB0 q4 q5 q6 q7 q8 hQ hR bQ bR bP dQ dP dR dA dU dW eX eK eL hZ
  go_enter Tryd.func7, Tryd.ntmps7
  go_wp2_with (first | (go_at_call 36; (fail_if_success (have := B1)); refine O1.out.mono ?_; rintro e w1 ⟨rfl, hb⟩; have B1 := Lib.hid hb; clear hb) | (go_at_call 36; refine (O2.out _ B1.out).mono ?_; rintro e w2 ⟨rfl, hb⟩; have B2 := Lib.hid (B1.out.trans (hb.mono B1.out.size)); clear hb) | (go_at_call 18; refine (DV.out _ B2.out).mono ?_; rintro e w3 ⟨rfl, hb⟩; have B3 := Lib.hid (B2.out.trans (hb.mono B2.out.size)); clear hb) | (go_at_call 20; refine (RM.out _ B3.out).mono ?_; rintro e w4 ⟨rfl, hb⟩; have B4 := Lib.hid (B3.out.trans (hb.mono B3.out.size)); clear hb) | (go_at_call 16; refine (MU.out _ B4.out).mono ?_; rintro e w5 ⟨rfl, hb⟩; have B5 := Lib.hid (B4.out.trans (hb.mono B4.out.size)); clear hb) | (go_at_call 12; refine (AD.out _ B5.out).mono ?_; rintro e w6 ⟨rfl, hb⟩; have B6 := Lib.hid (B5.out.trans (hb.mono B5.out.size)); clear hb) | (go_at_call 10; (fail_if_success (have := B7)); refine (C1.out _ B6.out).mono ?_; rintro e w7 ⟨rfl, hb⟩; have B7 := Lib.hid (B6.out.trans (hb.mono B6.out.size)); clear hb) | (go_at_call 37; (fail_if_success (have := B8)); refine (U1.out _ B7.out).mono ?_; rintro e w8 ⟨rfl, hb⟩; have B8 := Lib.hid (B7.out.trans (hb.mono B7.out.size)); clear hb) | (go_at_call 37; refine (U2.out _ B8.out).mono ?_; rintro e w9 ⟨rfl, hb⟩; have B9 := Lib.hid (B8.out.trans (hb.mono B8.out.size)); clear hb) | (go_at_call 10; refine (C2.out _ B9.out).mono ?_; rintro e w10 ⟨rfl, hb⟩; have B10 := Lib.hid (B9.out.trans (hb.mono B9.out.size)); clear hb) | (go_at_call 9; refine (AW.out _ B10.out).mono ?_; rintro e w11 ⟨rfl, hb⟩; have B11 := Lib.hid (B10.out.trans (hb.mono B10.out.size)); clear hb))
  go_ret
  exact ⟨rfl, B11.out⟩

theorem divides_any (m n s t : Int) (w : World) (h : Env w) :
    Calls Tryd.prog 7 #[.int .i64 m, .int .i64 n, .int .i64 s, .int .i64 t] w fun e w' => e = .returned (.bool true) ∧ Below w.heap.size w w' := by
  by_cases ho : outE s t = true
  · exact divides_out m n s t w h ho
  · have hs : (0 ≤ s ∧ s ≤ 10) ∧ (0 ≤ t ∧ t ≤ 10) := by
      unfold outE at ho
      simp only [Bool.or_eq_true, Bool.not_eq_true', decide_eq_true_eq, not_or] at ho
      obtain ⟨⟨⟨h1, h2⟩, h3⟩, h4⟩ := ho
      have g1 := of_scl (show isScl s = true by simpa using h1)
      have g2 := of_scl (show isScl t = true by simpa using h2)
      omega
    obtain ⟨a, rfl⟩ : ∃ a : Nat, s = a := ⟨s.toNat, by omega⟩
    obtain ⟨b, rfl⟩ : ∃ b : Nat, t = b := ⟨t.toNat, by omega⟩
    by_cases hz : n.tmod 10000000000 = 0
    · exact divides_none m n a b w h (by omega) (by omega) hz
    · exact divides_in m n a b w h (by omega) (by omega) hz

end Go.Proofs.YticbjhogdfpdkaaDoor
