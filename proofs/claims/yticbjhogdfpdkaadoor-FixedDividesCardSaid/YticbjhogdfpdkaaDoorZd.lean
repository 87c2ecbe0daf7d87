/- Sub, Mul in the numbers that texts tell. -/
import Derived.Test.YticbjhogdfpdkaaDoorZc
namespace Go.Proofs.YticbjhogdfpdkaaDoor
set_option maxRecDepth 8000
open Go.RowKit Go.Shelf

set_option maxRecDepth 100000 in
set_option maxHeartbeats 4000000 in
theorem sub_any (a b : ByteArray) (w : World) (h : Env w) (ha : a.size ≤ 1000) (hb : b.size ≤ 1000) :
    Calls Tryd.prog 14 #[.string a, .string b] w fun e w' => e = .returned (.tuple #[.string (if (okA a && okA b) = true then nearZ (difV a b) (zT a b) else ⟨#[]⟩), .int .i64 (if (okA a && okA b) = true then nearE (difV a b).natAbs (zT a b) else 2)]) ∧ Below w.heap.size w w' := by
  have RK : ∃ N B, ((okA a && okA b) = true → sg B N = difV a b) ∧ (Calls Tryd.prog 44 #[.string a, .string b, .func (Fn.func 39) #[] #[]] w fun e w' => e = .returned (.tuple #[.string (if (okA a && okA b) = true then nearT B N (zT a b) else ⟨#[]⟩), .int .i64 (if (okA a && okA b) = true then nearE N (zT a b) else 2)]) ∧ Below w.heap.size w w') := by
    by_cases ho : (okA a && okA b) = true
    · rw [Bool.and_eq_true] at ho
      obtain ⟨a1, a2, a3, a4⟩ := parse_ok ho.1
      obtain ⟨b1, b2, b3, b4⟩ := parse_ok ho.2
      have hz : zT a b ≤ 31 := by unfold zT; omega
      have hza : sT a ≤ zT a b := by unfold zT; omega
      have hzb : sT b ≤ zT a b := by unfold zT; omega
      have ez : (max (sT a : Int) (sT b : Int)) = ((zT a b : Nat) : Int) := by unfold zT; omega
      obtain ⟨m1, m2⟩ := moved_up a1 hza (by omega)
      obtain ⟨m3, m4⟩ := moved_up b1 hzb (by omega)
      refine ⟨plusN (parseB a) (!(parseB b)) (moved (parseN a) ((zT a b : Int) - (sT a : Int))) (moved (parseN b) ((zT a b : Int) - (sT b : Int))), plusB (parseB a) (!(parseB b)) (moved (parseN a) ((zT a b : Int) - (sT a : Int))) (moved (parseN b) ((zT a b : Int) - (sT b : Int))), fun _ => ?_, ?_⟩
      · rw [sg_plus, sg_not, moved_sg a1 hza (by omega), moved_sg b1 hzb (by omega), a4, b4]
        rfl
      · refine reckoned39_any a b _ (zT a b) _ w h ha hb (fun _ _ wx => ?_) ?_ (by omega)
        · rw [a2, b2]
          have := minus_any (parseN a) (parseN b) (sT a) (sT b) (parseB a) (parseB b) wx (lt128 a1) (lt128 b1) (by omega) (by omega) (by omega) (by omega) (by rw [ez, m1, m3]; exact big2 m2 m4)
          rw [ez] at this
          exact this
        · refine Nat.lt_of_le_of_lt (plusN_le _ _ _ _) ?_
          rw [m1, m3]
          exact big2 m2 m4
    · refine ⟨0, false, fun g => absurd g ho, ?_⟩
      refine (reckoned39_any a b 0 0 false w h ha hb (fun g1 g2 => absurd (show (okA a && okA b) = true by unfold okA; rw [g1, g2]; rfl) ho) (pow_pos _) (by omega)).mono fun e w' ⟨he, hb⟩ => ⟨?_, hb⟩
      rw [he]
      unfold okA at ho ⊢
      rw [if_neg ho, if_neg ho, if_neg ho, if_neg ho]
  obtain ⟨N, B, hs, RK⟩ := RK
  have ET : (if (okA a && okA b) = true then nearZ (difV a b) (zT a b) else ⟨#[]⟩) = (if (okA a && okA b) = true then nearT B N (zT a b) else (⟨#[]⟩ : ByteArray)) := by
    by_cases ho : (okA a && okA b) = true
    · rw [if_pos ho, if_pos ho, near_sg, hs ho]
    · rw [if_neg ho, if_neg ho]
  have EE : (if (okA a && okA b) = true then nearE (difV a b).natAbs (zT a b) else 2) = (if (okA a && okA b) = true then nearE N (zT a b) else 2) := by
    by_cases ho : (okA a && okA b) = true
    · rw [if_pos ho, if_pos ho, ← hs ho, sg_abs]
    · rw [if_neg ho, if_neg ho]
  rw [ET, EE]
  generalize (if (okA a && okA b) = true then nearT B N (zT a b) else (⟨#[]⟩ : ByteArray)) = T at RK ⊢
  generalize (if (okA a && okA b) = true then nearE N (zT a b) else 2) = E at RK ⊢
  have RK := Lib.hid RK
  clear hs ET EE h ha hb
  go_enter Tryd.func14, Tryd.ntmps14
  go_wp2_with (go_at_call 44; refine RK.out.mono ?_; rintro e w2 ⟨rfl, hb2⟩; have H2 := Lib.hid hb2; clear hb2)
  go_ret2
  exact ⟨rfl, H2.out⟩

set_option maxRecDepth 100000 in
set_option maxHeartbeats 4000000 in
theorem mul_any (a b : ByteArray) (w : World) (h : Env w) (ha : a.size ≤ 1000) (hb : b.size ≤ 1000) :
    Calls Tryd.prog 16 #[.string a, .string b] w fun e w' => e = .returned (.tuple #[.string (if (okA a && okA b) = true then nearZ ((vT a * vT b)) ((sT a + sT b)) else ⟨#[]⟩), .int .i64 (if (okA a && okA b) = true then nearE ((vT a * vT b)).natAbs ((sT a + sT b)) else 2)]) ∧ Below w.heap.size w w' := by
  have RK : ∃ N B, ((okA a && okA b) = true → sg B N = (vT a * vT b)) ∧ (Calls Tryd.prog 44 #[.string a, .string b, .func (Fn.func 47) #[] #[]] w fun e w' => e = .returned (.tuple #[.string (if (okA a && okA b) = true then nearT B N ((sT a + sT b)) else ⟨#[]⟩), .int .i64 (if (okA a && okA b) = true then nearE N ((sT a + sT b)) else 2)]) ∧ Below w.heap.size w w') := by
    by_cases ho : (okA a && okA b) = true
    · rw [Bool.and_eq_true] at ho
      obtain ⟨a1, a2, a3, a4⟩ := parse_ok ho.1
      obtain ⟨b1, b2, b3, b4⟩ := parse_ok ho.2
      have hN : parseN a * parseN b < 10 ^ 128 := by
        have e : (10 : Nat) ^ 62 = 10 ^ 31 * 10 ^ 31 := by rw [← Nat.pow_add]
        have : parseN a * parseN b < 10 ^ 62 := by rw [e]; exact Nat.mul_lt_mul'' a1 b1
        exact Nat.lt_of_lt_of_le this (Nat.pow_le_pow_right (by decide) (by decide))
      refine ⟨parseN a * parseN b, parseB a != parseB b, fun _ => ?_, ?_⟩
      · rw [sg_times, a4, b4]
      · refine reckoned47_any a b _ (sT a + sT b) _ w h ha hb (fun _ _ wx => ?_) hN (by omega)
        rw [a2, b2, Int.natCast_add]
        exact times_any (parseN a) (parseN b) (sT a) (sT b) (parseB a) (parseB b) wx (lt128 a1) hN (by omega) (by omega) (by omega) (by omega)
    · refine ⟨0, false, fun g => absurd g ho, ?_⟩
      refine (reckoned47_any a b 0 0 false w h ha hb (fun g1 g2 => absurd (show (okA a && okA b) = true by unfold okA; rw [g1, g2]; rfl) ho) (pow_pos _) (by omega)).mono fun e w' ⟨he, hb⟩ => ⟨?_, hb⟩
      rw [he]
      unfold okA at ho ⊢
      rw [if_neg ho, if_neg ho, if_neg ho, if_neg ho]
  obtain ⟨N, B, hs, RK⟩ := RK
  have ET : (if (okA a && okA b) = true then nearZ ((vT a * vT b)) ((sT a + sT b)) else ⟨#[]⟩) = (if (okA a && okA b) = true then nearT B N ((sT a + sT b)) else (⟨#[]⟩ : ByteArray)) := by
    by_cases ho : (okA a && okA b) = true
    · rw [if_pos ho, if_pos ho, near_sg, hs ho]
    · rw [if_neg ho, if_neg ho]
  have EE : (if (okA a && okA b) = true then nearE ((vT a * vT b)).natAbs ((sT a + sT b)) else 2) = (if (okA a && okA b) = true then nearE N ((sT a + sT b)) else 2) := by
    by_cases ho : (okA a && okA b) = true
    · rw [if_pos ho, if_pos ho, ← hs ho, sg_abs]
    · rw [if_neg ho, if_neg ho]
  rw [ET, EE]
  generalize (if (okA a && okA b) = true then nearT B N ((sT a + sT b)) else (⟨#[]⟩ : ByteArray)) = T at RK ⊢
  generalize (if (okA a && okA b) = true then nearE N ((sT a + sT b)) else 2) = E at RK ⊢
  have RK := Lib.hid RK
  clear hs ET EE h ha hb
  go_enter Tryd.func16, Tryd.ntmps16
  go_wp2_with (go_at_call 44; refine RK.out.mono ?_; rintro e w2 ⟨rfl, hb2⟩; have H2 := Lib.hid hb2; clear hb2)
  go_ret2
  exact ⟨rfl, H2.out⟩

end Go.Proofs.YticbjhogdfpdkaaDoor
