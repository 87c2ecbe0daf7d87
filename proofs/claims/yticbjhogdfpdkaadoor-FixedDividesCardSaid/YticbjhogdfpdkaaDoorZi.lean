/- Div in numbers. -/
import Derived.Test.YticbjhogdfpdkaaDoorZh
namespace Go.Proofs.YticbjhogdfpdkaaDoor
set_option maxRecDepth 8000
open Go.RowKit Go.Shelf

theorem sg_div (b c : Bool) (n m : Nat) : sg (b != c) (n / m) = (sg b n).tdiv (sg c m) := by
  unfold sg
  cases b <;> cases c <;> simp [Int.neg_tdiv, Int.tdiv_neg]
theorem moved_nat {n k : Nat} (h : n < 10 ^ 31) (hk : k ≤ 62) : moved n (k : Int) = n * 10 ^ k ∧ n * 10 ^ k < 10 ^ 93 := by
  have := moved_up (s := 0) (z := k) h (Nat.zero_le _) hk
  simpa using this
/-- The quotient that Div cuts. -/
def quoV (a b : ByteArray) (sc : Int) : Int := (vT a * 10 ^ (sc + sT b - sT a).toNat).tdiv (vT b * 10 ^ (sT a - sT b - sc).toNat)

theorem div_any (a b : ByteArray) (sc : Int) (w : World) (h : Env w) (ha : a.size ≤ 1000) (hb : b.size ≤ 1000) :
    Calls Tryd.prog 18 #[.string a, .string b, .int .i64 sc] w fun e w' => e = .returned (.tuple #[.string (divT (okA a) (okA b) (isScl sc) (decide (vT b = 0)) (toldZ (quoV a b sc) sc.toNat)), .int .i64 (divE (okA a) (okA b) (isScl sc) (decide (vT b = 0)) (toldE (quoV a b sc).natAbs sc.toNat))]) ∧ Below w.heap.size w w' := by
  by_cases ho : (okA a && okA b && isScl sc) = true
  · have ho2 := ho
    rw [Bool.and_eq_true, Bool.and_eq_true] at ho
    obtain ⟨⟨hoa, hob⟩, hsc⟩ := ho
    obtain ⟨a1, a2, a3, a4⟩ := parse_ok hoa
    obtain ⟨b1, b2, b3, b4⟩ := parse_ok hob
    have hs : 0 ≤ sc ∧ sc ≤ 31 := by
      unfold isScl at hsc
      rw [Bool.and_eq_true, decide_eq_true_eq, decide_eq_true_eq] at hsc
      exact hsc
    obtain ⟨k, rfl⟩ : ∃ k : Nat, sc = k := ⟨sc.toNat, by omega⟩
    obtain ⟨x, hx⟩ : ∃ x : Nat, ((k : Int) + sT b - sT a).toNat = x := ⟨_, rfl⟩
    obtain ⟨y, hy⟩ : ∃ y : Nat, ((sT a : Int) - sT b - k).toNat = y := ⟨_, rfl⟩
    have hx2 : max ((k : Int) + sT b - sT a) 0 = (x : Int) := by omega
    have hy2 : max (-((k : Int) + sT b - sT a)) 0 = (y : Int) := by omega
    obtain ⟨m1, m2⟩ := moved_nat (k := x) a1 (by omega)
    obtain ⟨m3, m4⟩ := moved_nat (k := y) b1 (by omega)
    have eU : upN (parseN a) ((k : Int) + sT b - sT a) = parseN a * 10 ^ x := by unfold upN; rw [hx2, m1]
    have eL : loN (parseN b) ((k : Int) + sT b - sT a) = parseN b * 10 ^ y := by unfold loN; rw [hy2, m3]
    have hNlt : parseN a * 10 ^ x / (parseN b * 10 ^ y) < 10 ^ 128 := Nat.lt_of_le_of_lt (Nat.div_le_self _ _) (Nat.lt_of_lt_of_le m2 (Nat.pow_le_pow_right (by decide) (by decide)))
    have hq : sg (parseB a != parseB b) (parseN a * 10 ^ x / (parseN b * 10 ^ y)) = quoV a b k := by
      rw [sg_div, sg_up, sg_up, a4, b4]
      unfold quoV
      rw [hx, hy, Int.natCast_pow, Int.natCast_pow]
      rfl
    refine (div_texts a b k (parseN a * 10 ^ x / (parseN b * 10 ^ y)) k (parseB a != parseB b) w h ha hb (fun _ _ _ hz wx => ?_) hNlt (lt128 b1)).mono fun e w' ⟨he, hb⟩ => ⟨?_, hb⟩
    · rw [a2, b2]
      have := by_any (parseN a) (parseN b) (sT a) (sT b) k (parseB a) (parseB b) wx (lt128 a1) (lt128 b1) (by omega) (by omega) (by omega) (by omega) (by omega) (by omega) (by rw [eL]; exact Nat.mul_pos (Nat.pos_of_ne_zero hz) (pow_pos _))
      rw [eU, eL] at this
      exact this
    · rw [he, told_sg, hq, Int.toNat_natCast]
      have e1 : (parseN a * 10 ^ x / (parseN b * 10 ^ y)) = (quoV a b k).natAbs := by rw [← hq, sg_abs]
      have e2 : decide (parseN b = 0) = decide (vT b = 0) := by rw [← b4]; exact decide_eq_decide.2 sg_zero.symm
      rw [e1, e2]
      rfl
  · have hn : ∀ T z, divT (okA a) (okA b) (isScl sc) z T = ⟨#[]⟩ := fun T z => by
      unfold divT
      rw [if_neg]
      intro g
      rw [Bool.and_eq_true] at g
      exact ho g.1
    have hE : ∀ E E' z z', divE (okA a) (okA b) (isScl sc) z E = divE (okA a) (okA b) (isScl sc) z' E' := fun E E' z z' => by
      unfold divE
      by_cases g : (okA a && okA b) = true
      · have : isScl sc = false := by
          cases hf : isScl sc
          · rfl
          · exact absurd (by rw [g, hf]; rfl) ho
        rw [this]
        simp
      · rw [if_neg g, if_neg g]
    by_cases hob : okA b = true
    · refine (div_texts a b sc 0 0 false w h ha hb (fun g1 g2 g3 _ => absurd (show (okA a && okA b && isScl sc) = true by unfold okA; rw [g1, g2, g3]; rfl) ho) (pow_pos _) (lt128 (parse_ok hob).1)).mono fun e w' ⟨he, hb⟩ => ⟨?_, hb⟩
      rw [he]
      rw [hn, hE (toldE (quoV a b sc).natAbs sc.toNat) (toldE 0 0) _ (decide (parseN b = 0))]
      rw [show okT a.data.toList = okA a from rfl, show okT b.data.toList = okA b from rfl, hn]
    · have hz : parseN b = 0 := by unfold parseN; rw [if_neg (show ¬ okT b.data.toList = true from hob)]
      refine (div_texts a b sc 0 0 false w h ha hb (fun g1 g2 g3 _ => absurd (show (okA a && okA b && isScl sc) = true by unfold okA; rw [g1, g2, g3]; rfl) ho) (pow_pos _) (by rw [hz]; exact pow_pos _)).mono fun e w' ⟨he, hb⟩ => ⟨?_, hb⟩
      rw [he]
      rw [hn, hE (toldE (quoV a b sc).natAbs sc.toNat) (toldE 0 0) _ (decide (parseN b = 0))]
      rw [show okT a.data.toList = okA a from rfl, show okT b.data.toList = okA b from rfl, hn]

end Go.Proofs.YticbjhogdfpdkaaDoor
