/- Add, Sub, Mul in the numbers that texts tell. -/
import Derived.Test.YticbjhogdfpdkaaDoorZb
namespace Go.Proofs.YticbjhogdfpdkaaDoor
set_option maxRecDepth 8000
open Go.RowKit Go.Shelf

/-- Is a text that of a decimal; its number; its scale. -/
def okA (a : ByteArray) : Bool := okT a.data.toList
def vT (a : ByteArray) : Int := valT a.data.toList
def sT (a : ByteArray) : Nat := sclT a.data.toList
theorem parse_ok {a : ByteArray} (h : okA a = true) : parseN a < 10 ^ 31 ∧ parseS a = sT a ∧ sT a ≤ 31 ∧ sg (parseB a) (parseN a) = vT a := by
  unfold okA at h
  have h0 := h
  unfold okT at h
  rw [Bool.and_eq_true, Bool.and_eq_true] at h
  obtain ⟨⟨hw, hb⟩, hu⟩ := h
  unfold okW at hw
  unfold okB at hb
  unfold okU at hu
  simp only [Bool.and_eq_true, decide_eq_true_eq] at hw hb hu
  have hd : allD (pU a.data.toList) = true := allD_drop _ (by rw [allD_app, hw.1.1, hb.1.1]; rfl)
  have hl := valL_lt _ hd
  have e1 : parseN a = valL (pU a.data.toList) := by unfold parseN; rw [if_pos h0]
  have e2 : parseS a = sT a := by unfold parseS sT; rw [if_pos h0]
  have e3 : parseB a = pS a.data.toList := by unfold parseB; rw [h0]; rfl
  refine ⟨?_, e2, hb.2, ?_⟩
  · rw [e1]
    exact Nat.lt_of_lt_of_le hl (Nat.pow_le_pow_right (by decide) hu.1)
  · rw [e1, e3]; rfl
theorem txt_same {b c : Bool} {m s : Nat} (h : m ≠ 0 → b = c) : txt b m s = txt c m s := by
  by_cases h0 : m = 0
  · subst h0
    unfold txt txtL
    simp
  · rw [h h0]
def toldZ (v : Int) (s : Nat) : ByteArray := toldT (decide (v < 0)) v.natAbs s
def nearZ (v : Int) (s : Nat) : ByteArray := nearT (decide (v < 0)) v.natAbs s
theorem told_same {b c : Bool} {m s : Nat} (h : m ≠ 0 → b = c) : toldT b m s = toldT c m s := by
  unfold toldT
  rw [txt_same h]
theorem sign_sg (b : Bool) (n : Nat) (h : n ≠ 0) : b = decide (sg b n < 0) := by rw [sg_neg, decide_eq_true h, Bool.and_true]
theorem told_sg (b : Bool) (n s : Nat) : toldT b n s = toldZ (sg b n) s := by
  unfold toldZ
  rw [sg_abs]
  exact told_same fun h => sign_sg b n h
theorem near_sg (b : Bool) (n s : Nat) : nearT b n s = nearZ (sg b n) s := by
  unfold nearZ nearT
  rw [sg_abs]
  split
  · refine told_same fun h => sign_sg b n fun h0 => h ?_
    rw [h0, Nat.zero_div]
  · rfl
/-- A number that fits is told as it is. -/
theorem off_zero {n s : Nat} (h : n < 10 ^ 31) (hs : s ≤ 31) : offT n s = 0 := by
  have := digs_most h (by decide)
  unfold offT
  omega
theorem fits_of {n s : Nat} (h : n < 10 ^ 31) (hs : s ≤ 31) : fitsT n s = true := by
  unfold fitsT
  rw [decide_eq_true (digs_most h (by decide)), decide_eq_true hs]
  rfl
theorem nearE_fit {n s : Nat} (h : n < 10 ^ 31) (hs : s ≤ 31) : nearE n s = 0 := by
  unfold nearE toldE
  rw [off_zero h hs, if_pos (Nat.zero_le _), Nat.pow_zero, Nat.div_one, Nat.sub_zero, if_pos (fits_of h hs)]
theorem nearZ_fit {v : Int} {s : Nat} (h : v.natAbs < 10 ^ 31) (hs : s ≤ 31) : nearZ v s = txtZ v s := by
  unfold nearZ nearT toldT
  rw [off_zero h hs, if_pos (Nat.zero_le _), Nat.pow_zero, Nat.div_one, Nat.sub_zero, if_pos (fits_of h hs)]
  rfl

/-- A number at a greater scale. -/
theorem moved_up {n s z : Nat} (h : n < 10 ^ 31) (h1 : s ≤ z) (h2 : z ≤ 62) : moved n ((z : Int) - (s : Int)) = n * 10 ^ (z - s) ∧ n * 10 ^ (z - s) < 10 ^ 93 := by
  have hlt : n * 10 ^ (z - s) < 10 ^ 93 := by
    have e : (10 : Nat) ^ 93 = 10 ^ 31 * 10 ^ 62 := by rw [← Nat.pow_add]
    rw [e]
    have h3 : 10 ^ (z - s) ≤ 10 ^ 62 := Nat.pow_le_pow_right (by decide) (by omega)
    exact Nat.lt_of_le_of_lt (Nat.mul_le_mul_left _ h3) (Nat.mul_lt_mul_of_pos_right h (pow_pos 62))
  refine ⟨?_, hlt⟩
  unfold moved
  rw [if_pos (by omega), show ((z : Int) - (s : Int)).toNat = z - s by omega]
  exact Nat.mod_eq_of_lt (Nat.lt_of_lt_of_le hlt (Nat.pow_le_pow_right (by decide) (by decide)))
theorem moved_sg {n s z : Nat} {b : Bool} (h : n < 10 ^ 31) (h1 : s ≤ z) (h2 : z ≤ 62) : sg b (moved n ((z : Int) - (s : Int))) = sg b n * 10 ^ (z - s) := by
  rw [(moved_up h h1 h2).1, sg_up, Int.natCast_pow]
  rfl
theorem plusN_le (b c : Bool) (n m : Nat) : plusN b c n m ≤ n + m := by
  unfold plusN
  split
  · exact Nat.le_refl _
  · split <;> omega

def zT (a b : ByteArray) : Nat := max (sT a) (sT b)
def sumV (a b : ByteArray) : Int := vT a * 10 ^ (zT a b - sT a) + vT b * 10 ^ (zT a b - sT b)
def difV (a b : ByteArray) : Int := vT a * 10 ^ (zT a b - sT a) - vT b * 10 ^ (zT a b - sT b)

theorem big2 {x y : Nat} (hx : x < 10 ^ 93) (hy : y < 10 ^ 93) : x + y < 10 ^ 128 := by
  have : (10 : Nat) ^ 128 = 10 ^ 93 * 10 ^ 35 := by rw [← Nat.pow_add]
  have h2 : 2 ≤ 10 ^ 35 := by decide
  have h3 : 10 ^ 93 * 2 ≤ 10 ^ 93 * 10 ^ 35 := Nat.mul_le_mul_left _ h2
  omega
theorem lt128 {n : Nat} (h : n < 10 ^ 31) : n < 10 ^ 128 := Nat.lt_of_lt_of_le h (Nat.pow_le_pow_right (by decide) (by decide))

set_option maxRecDepth 100000 in
set_option maxHeartbeats 4000000 in
theorem add_any (a b : ByteArray) (w : World) (h : Env w) (ha : a.size ≤ 1000) (hb : b.size ≤ 1000) :
    Calls Tryd.prog 12 #[.string a, .string b] w fun e w' => e = .returned (.tuple #[.string (if (okA a && okA b) = true then nearZ (sumV a b) (zT a b) else ⟨#[]⟩), .int .i64 (if (okA a && okA b) = true then nearE (sumV a b).natAbs (zT a b) else 2)]) ∧ Below w.heap.size w w' := by
  have RK : ∃ N B, ((okA a && okA b) = true → sg B N = sumV a b) ∧ (Calls Tryd.prog 44 #[.string a, .string b, .func (Fn.func 45) #[] #[]] w fun e w' => e = .returned (.tuple #[.string (if (okA a && okA b) = true then nearT B N (zT a b) else ⟨#[]⟩), .int .i64 (if (okA a && okA b) = true then nearE N (zT a b) else 2)]) ∧ Below w.heap.size w w') := by
    by_cases ho : (okA a && okA b) = true
    · rw [Bool.and_eq_true] at ho
      obtain ⟨a1, a2, a3, a4⟩ := parse_ok ho.1
      obtain ⟨b1, b2, b3, b4⟩ := parse_ok ho.2
      have hz : zT a b ≤ 31 := by unfold zT; omega
      have hza : sT a ≤ zT a b := by unfold zT; omega
      have hzb : sT b ≤ zT a b := by unfold zT; omega
      have ez : (max (sT a : Int) (sT b : Int)) = ((zT a b : Nat) : Int) := by unfold zT; omega
      obtain ⟨m1, m2⟩ := moved_up a1 hza (by omega)
      obtain ⟨m3, m4⟩ := moved_up b1 hzb (by omega)
      refine ⟨plusN (parseB a) (parseB b) (moved (parseN a) ((zT a b : Int) - (sT a : Int))) (moved (parseN b) ((zT a b : Int) - (sT b : Int))), plusB (parseB a) (parseB b) (moved (parseN a) ((zT a b : Int) - (sT a : Int))) (moved (parseN b) ((zT a b : Int) - (sT b : Int))), fun _ => ?_, ?_⟩
      · rw [sg_plus, moved_sg a1 hza (by omega), moved_sg b1 hzb (by omega), a4, b4]
        rfl
      · refine reckoned45_any a b _ (zT a b) _ w h ha hb (fun _ _ wx => ?_) ?_ (by omega)
        · rw [a2, b2]
          have := plus_any (parseN a) (parseN b) (sT a) (sT b) (parseB a) (parseB b) wx (lt128 a1) (lt128 b1) (by omega) (by omega) (by omega) (by omega) (by rw [ez, m1, m3]; exact big2 m2 m4)
          rw [ez] at this
          exact this
        · refine Nat.lt_of_le_of_lt (plusN_le _ _ _ _) ?_
          rw [m1, m3]
          exact big2 m2 m4
    · refine ⟨0, false, fun g => absurd g ho, ?_⟩
      refine (reckoned45_any a b 0 0 false w h ha hb (fun g1 g2 => absurd (show (okA a && okA b) = true by unfold okA; rw [g1, g2]; rfl) ho) (pow_pos _) (by omega)).mono fun e w' ⟨he, hb⟩ => ⟨?_, hb⟩
      rw [he]
      unfold okA at ho ⊢
      rw [if_neg ho, if_neg ho, if_neg ho, if_neg ho]
  obtain ⟨N, B, hs, RK⟩ := RK
  have ET : (if (okA a && okA b) = true then nearZ (sumV a b) (zT a b) else ⟨#[]⟩) = (if (okA a && okA b) = true then nearT B N (zT a b) else (⟨#[]⟩ : ByteArray)) := by
    by_cases ho : (okA a && okA b) = true
    · rw [if_pos ho, if_pos ho, near_sg, hs ho]
    · rw [if_neg ho, if_neg ho]
  have EE : (if (okA a && okA b) = true then nearE (sumV a b).natAbs (zT a b) else 2) = (if (okA a && okA b) = true then nearE N (zT a b) else 2) := by
    by_cases ho : (okA a && okA b) = true
    · rw [if_pos ho, if_pos ho, ← hs ho, sg_abs]
    · rw [if_neg ho, if_neg ho]
  rw [ET, EE]
  generalize (if (okA a && okA b) = true then nearT B N (zT a b) else (⟨#[]⟩ : ByteArray)) = T at RK ⊢
  generalize (if (okA a && okA b) = true then nearE N (zT a b) else 2) = E at RK ⊢
  have RK := Lib.hid RK
  clear hs ET EE h ha hb
  go_enter Tryd.func12, Tryd.ntmps12
  go_wp2_with (go_at_call 44; refine RK.out.mono ?_; rintro e w2 ⟨rfl, hb2⟩; have H2 := Lib.hid hb2; clear hb2)
  go_ret2
  exact ⟨rfl, H2.out⟩

end Go.Proofs.YticbjhogdfpdkaaDoor
