/- The law FixedExact. -/
import Derived.Test.YticbjhogdfpdkaaDoorZo
namespace Go.Proofs.YticbjhogdfpdkaaDoor
set_option maxRecDepth 8000
open Go.RowKit Go.Shelf

theorem rem_small (m : Int) : (m.tmod 10000000000).natAbs < 10 ^ 10 := by
  have h1 := Int.natAbs_tmod m 10000000000
  rw [h1]
  exact Nat.mod_lt _ (by decide)
theorem rem_bounds (m : Int) : -9223372036854775808 ≤ m.tmod 10000000000 ∧ m.tmod 10000000000 ≤ 9223372036854775807 := by
  have := rem_small m
  omega
theorem not_scl {s : Int} (h : isScl s = false) : ¬ (0 ≤ s ∧ s ≤ 31) := by
  unfold isScl at h
  intro ⟨h1, h2⟩
  rw [decide_eq_true h1, decide_eq_true h2] at h
  cases h
theorem of_scl {s : Int} (h : isScl s = true) : 0 ≤ s ∧ s ≤ 31 := by
  unfold isScl at h
  rw [Bool.and_eq_true, decide_eq_true_eq, decide_eq_true_eq] at h
  exact h

/-- The law, where a case is out of its reach. -/
def outE (s t : Int) : Bool := !(isScl s) || !(isScl t) || decide (10 < s) || decide (10 < t)

set_option maxRecDepth 100000 in
set_option maxHeartbeats 8000000 in
theorem exact_out (m n s t : Int) (w : World) (h : Env w) (hout : outE s t = true) :
    Calls Tryd.prog 6 #[.int .i64 m, .int .i64 n, .int .i64 s, .int .i64 t] w fun e w' => e = .returned (.bool true) ∧ Below w.heap.size w w' := by
  have O1 := Lib.hid (of_any (m.tmod 10000000000) s w h (rem_bounds m).1 (rem_bounds m).2)
  have O2 := Lib.hid fun wx (hx : Below w.heap.size w wx) => of_any (n.tmod 10000000000) t wx (h.below hx) (rem_bounds n).1 (rem_bounds n).2
  have AW := Lib.hid fun wx (hx : Below w.heap.size w wx) => awake_any wx (h.below hx)
  have OE : outE s t = (!(isScl s) || !(isScl t) || decide (10 < s) || decide (10 < t)) := rfl
  rw [hout] at OE
  generalize isScl s = f at O1 OE
  generalize isScl t = g at O2 OE
  clear h hout
  go_enter Tryd.func6, Tryd.ntmps6
  cases f with
  | false =>
    rw [if_neg (by decide), if_neg (by decide)] at O1
    generalize (if g = true then txtZ (n.tmod 10000000000) t.toNat else ⟨#[]⟩) = T2 at O2
    generalize (if g = true then (0 : Int) else 7) = E2 at O2
    clear OE
    go_wp2_with (first | (go_at_call 36; (fail_if_success (have := B1)); refine O1.out.mono ?_; rintro e w1 ⟨rfl, hb⟩; have B1 := Lib.hid hb; clear hb) | (go_at_call 36; refine (O2.out _ B1.out).mono ?_; rintro e w2 ⟨rfl, hb⟩; have B2 := Lib.hid (B1.out.trans (hb.mono B1.out.size)); clear hb) | (go_at_call 9; refine (AW.out _ B2.out).mono ?_; rintro e w3 ⟨rfl, hb⟩; have B3 := Lib.hid (B2.out.trans (hb.mono B2.out.size)); clear hb))
    go_ret
    exact ⟨rfl, B3.out⟩
  | true =>
    rw [if_pos rfl, if_pos rfl] at O1
    cases g with
    | false =>
      rw [if_neg (by decide), if_neg (by decide)] at O2
      generalize txtZ (m.tmod 10000000000) s.toNat = T1 at O1
      clear OE
      go_wp2_with (first | (go_at_call 36; (fail_if_success (have := B1)); refine O1.out.mono ?_; rintro e w1 ⟨rfl, hb⟩; have B1 := Lib.hid hb; clear hb) | (go_at_call 36; refine (O2.out _ B1.out).mono ?_; rintro e w2 ⟨rfl, hb⟩; have B2 := Lib.hid (B1.out.trans (hb.mono B1.out.size)); clear hb) | (go_at_call 9; refine (AW.out _ B2.out).mono ?_; rintro e w3 ⟨rfl, hb⟩; have B3 := Lib.hid (B2.out.trans (hb.mono B2.out.size)); clear hb))
      go_ret
      exact ⟨rfl, B3.out⟩
    | true =>
      rw [if_pos rfl, if_pos rfl] at O2
      generalize txtZ (m.tmod 10000000000) s.toNat = T1 at O1
      generalize txtZ (n.tmod 10000000000) t.toNat = T2 at O2
      by_cases h1 : 10 < s
      · clear OE
        go_wp2_with (first | (go_at_call 36; (fail_if_success (have := B1)); refine O1.out.mono ?_; rintro e w1 ⟨rfl, hb⟩; have B1 := Lib.hid hb; clear hb) | (go_at_call 36; refine (O2.out _ B1.out).mono ?_; rintro e w2 ⟨rfl, hb⟩; have B2 := Lib.hid (B1.out.trans (hb.mono B1.out.size)); clear hb) | (go_at_call 9; refine (AW.out _ B2.out).mono ?_; rintro e w3 ⟨rfl, hb⟩; have B3 := Lib.hid (B2.out.trans (hb.mono B2.out.size)); clear hb))
        go_ret
        exact ⟨rfl, B3.out⟩
      · rw [decide_eq_false h1] at OE
        have h2 : 10 < t := by simpa using OE.symm
        clear OE
        go_wp2_with (first | (go_at_call 36; (fail_if_success (have := B1)); refine O1.out.mono ?_; rintro e w1 ⟨rfl, hb⟩; have B1 := Lib.hid hb; clear hb) | (go_at_call 36; refine (O2.out _ B1.out).mono ?_; rintro e w2 ⟨rfl, hb⟩; have B2 := Lib.hid (B1.out.trans (hb.mono B1.out.size)); clear hb) | (go_at_call 9; refine (AW.out _ B2.out).mono ?_; rintro e w3 ⟨rfl, hb⟩; have B3 := Lib.hid (B2.out.trans (hb.mono B2.out.size)); clear hb))
        go_ret
        exact ⟨rfl, B3.out⟩

set_option maxRecDepth 100000 in
set_option maxHeartbeats 8000000 in
theorem exact_in (m n : Int) (s t : Nat) (w : World) (h : Env w) (hs : s ≤ 10) (ht : t ≤ 10) :
    Calls Tryd.prog 6 #[.int .i64 m, .int .i64 n, .int .i64 s, .int .i64 t] w fun e w' => e = .returned (.bool true) ∧ Below w.heap.size w w' := by
  have O1 := Lib.hid (of_any (m.tmod 10000000000) s w h (rem_bounds m).1 (rem_bounds m).2)
  have O2 := Lib.hid fun wx (hx : Below w.heap.size w wx) => of_any (n.tmod 10000000000) t wx (h.below hx) (rem_bounds n).1 (rem_bounds n).2
  have AW := Lib.hid fun wx (hx : Below w.heap.size w wx) => awake_any wx (h.below hx)
  have s1 : isScl (s : Int) = true := by unfold isScl; rw [decide_eq_true (by omega), decide_eq_true (by omega)]; rfl
  have s2 : isScl (t : Int) = true := by unfold isScl; rw [decide_eq_true (by omega), decide_eq_true (by omega)]; rfl
  rw [s1, if_pos rfl, if_pos rfl, Int.toNat_natCast] at O1
  rw [s2, if_pos rfl, if_pos rfl, Int.toNat_natCast] at O2
  have hM := rem_small m
  have hN := rem_small n
  obtain ⟨M, eM⟩ : ∃ M, m.tmod 10000000000 = M := ⟨_, rfl⟩
  obtain ⟨N, eN⟩ : ∃ N, n.tmod 10000000000 = N := ⟨_, rfl⟩
  rw [eM] at O1 hM
  rw [eN] at O2 hN
  have dM := DecT.of hM hs
  have dN := DecT.of hN ht
  obtain ⟨Z, hZ⟩ : ∃ Z, max s t = Z := ⟨_, rfl⟩
  have hZ2 : max t s = Z := by omega
  have x1 : (M * 10 ^ (Z - s)).natAbs < 10 ^ 20 := lift_lt hM (by omega)
  have x2 : (N * 10 ^ (Z - t)).natAbs < 10 ^ 20 := lift_lt hN (by omega)
  have eV : addV M N s t = M * 10 ^ (Z - s) + N * 10 ^ (Z - t) := by unfold addV; rw [hZ]
  have eW : addV N M t s = M * 10 ^ (Z - s) + N * 10 ^ (Z - t) := by unfold addV; rw [hZ2, Int.add_comm]
  have hV : (M * 10 ^ (Z - s) + N * 10 ^ (Z - t)).natAbs < 10 ^ 31 := by omega
  have dV : DecT (M * 10 ^ (Z - s) + N * 10 ^ (Z - t)) Z := ⟨hV, by omega⟩
  have dU : DecT (M * 10 ^ (Z - s)) Z := ⟨by omega, by omega⟩
  have m1 : max Z t = Z := by omega
  have m2 : max Z s = Z := by omega
  have eU : subV (M * 10 ^ (Z - s) + N * 10 ^ (Z - t)) N Z t = M * 10 ^ (Z - s) := by
    unfold subV
    rw [m1, Nat.sub_self, Int.pow_zero, Int.mul_one]
    omega
  have eK : (subV (M * 10 ^ (Z - s)) M Z s).sign = 0 := by
    unfold subV
    rw [m2, Nat.sub_self, Int.pow_zero, Int.mul_one, Int.sub_self]
    rfl
  have hP : (M * N).natAbs < 10 ^ 31 := by
    rw [Int.natAbs_mul]
    have e : (10 : Nat) ^ 20 = 10 ^ 10 * 10 ^ 10 := by rw [← Nat.pow_add]
    have : M.natAbs * N.natAbs < 10 ^ 20 := by rw [e]; exact Nat.mul_lt_mul'' hM hN
    omega
  have AB := Lib.hid fun wx (hx : Below w.heap.size w wx) => add_txt dM dN (by rw [eV]; exact hV) wx (h.below hx)
  have BA := Lib.hid fun wx (hx : Below w.heap.size w wx) => add_txt dN dM (by rw [eW]; exact hV) wx (h.below hx)
  have CB := Lib.hid fun wx (hx : Below w.heap.size w wx) => sub_txt dV dN (by rw [eU]; exact dU.v) wx (h.below hx)
  have UA := Lib.hid fun wx (hx : Below w.heap.size w wx) => cmp_txt dU dM wx (h.below hx)
  have MA := Lib.hid fun wx (hx : Below w.heap.size w wx) => mul_txt dM dN hP (by omega) wx (h.below hx)
  have MB := Lib.hid fun wx (hx : Below w.heap.size w wx) => mul_txt dN dM (by rw [Int.mul_comm]; exact hP) (by omega) wx (h.below hx)
  rw [eV, hZ] at AB
  rw [eW, hZ2] at BA
  rw [eU, m1] at CB
  rw [eK] at UA
  rw [Int.mul_comm N M, Nat.add_comm t s] at MB
  have hs10 : ¬ (10 : Int) < (s : Int) := by omega
  have ht10 : ¬ (10 : Int) < (t : Int) := by omega
  generalize txtZ (M * N) (s + t) = tP at MA MB
  generalize txtZ (M * 10 ^ (Z - s) + N * 10 ^ (Z - t)) Z = tV at AB BA CB
  generalize txtZ (M * 10 ^ (Z - s)) Z = tU at CB UA
  generalize txtZ M s = tM at O1 AB BA UA MA MB
  generalize txtZ N t = tN at O2 AB BA CB MA MB
  clear hM hN dM dN hZ hZ2 x1 x2 eV eW hV dV dU m1 m2 eU eK hP hs ht s1 s2 h
  go_enter Tryd.func6, Tryd.ntmps6
  go_wp2_with (first | (go_at_call 36; (fail_if_success (have := B1)); refine O1.out.mono ?_; rintro e w1 ⟨rfl, hb⟩; have B1 := Lib.hid hb; clear hb) | (go_at_call 36; refine (O2.out _ B1.out).mono ?_; rintro e w2 ⟨rfl, hb⟩; have B2 := Lib.hid (B1.out.trans (hb.mono B1.out.size)); clear hb) | (go_at_call 12; (fail_if_success (have := B3)); refine (AB.out _ B2.out).mono ?_; rintro e w3 ⟨rfl, hb⟩; have B3 := Lib.hid (B2.out.trans (hb.mono B2.out.size)); clear hb) | (go_at_call 12; refine (BA.out _ B3.out).mono ?_; rintro e w4 ⟨rfl, hb⟩; have B4 := Lib.hid (B3.out.trans (hb.mono B3.out.size)); clear hb) | (go_at_call 14; refine (CB.out _ B4.out).mono ?_; rintro e w5 ⟨rfl, hb⟩; have B5 := Lib.hid (B4.out.trans (hb.mono B4.out.size)); clear hb) | (go_at_call 10; refine (UA.out _ B5.out).mono ?_; rintro e w6 ⟨rfl, hb⟩; have B6 := Lib.hid (B5.out.trans (hb.mono B5.out.size)); clear hb) | (go_at_call 16; (fail_if_success (have := B7)); refine (MA.out _ B6.out).mono ?_; rintro e w7 ⟨rfl, hb⟩; have B7 := Lib.hid (B6.out.trans (hb.mono B6.out.size)); clear hb) | (go_at_call 16; refine (MB.out _ B7.out).mono ?_; rintro e w8 ⟨rfl, hb⟩; have B8 := Lib.hid (B7.out.trans (hb.mono B7.out.size)); clear hb) | (go_at_call 9; refine (AW.out _ B8.out).mono ?_; rintro e w9 ⟨rfl, hb⟩; have B9 := Lib.hid (B8.out.trans (hb.mono B8.out.size)); clear hb))
  go_ret
  exact ⟨rfl, B9.out⟩

theorem exact_any (m n s t : Int) (w : World) (h : Env w) :
    Calls Tryd.prog 6 #[.int .i64 m, .int .i64 n, .int .i64 s, .int .i64 t] w fun e w' => e = .returned (.bool true) ∧ Below w.heap.size w w' := by
  by_cases ho : outE s t = true
  · exact exact_out m n s t w h ho
  · have hs : (0 ≤ s ∧ s ≤ 10) ∧ (0 ≤ t ∧ t ≤ 10) := by
      unfold outE at ho
      simp only [Bool.or_eq_true, Bool.not_eq_true', decide_eq_true_eq, not_or] at ho
      obtain ⟨⟨⟨h1, h2⟩, h3⟩, h4⟩ := ho
      have g1 := of_scl (show isScl s = true by simpa using h1)
      have g2 := of_scl (show isScl t = true by simpa using h2)
      omega
    obtain ⟨a, rfl⟩ : ∃ a : Nat, s = a := ⟨s.toNat, by omega⟩
    obtain ⟨b, rfl⟩ : ∃ b : Nat, t = b := ⟨t.toNat, by omega⟩
    exact exact_in m n a b w h (by omega) (by omega)

end Go.Proofs.YticbjhogdfpdkaaDoor
