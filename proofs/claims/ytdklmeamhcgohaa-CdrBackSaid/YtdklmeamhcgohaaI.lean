/-
  PROVED HERE: what isSize, Pad and their twins of the reference return, for all numbers.
-/
import Derived.Test.YtdklmeamhcgohaaE
namespace Go.Proofs.Ytdklmeamhcgohaa
open Go.RowKit

/-- Is a number a size? -/
def szB (n : Int) : Bool := decide (n = 1) || decide (n = 2) || decide (n = 4) || decide (n = 8)

theorem szB_iff (n : Int) : szB n = true ↔ n = 1 ∨ n = 2 ∨ n = 4 ∨ n = 8 := by simp [szB, or_assoc]

/-- The table of sizes. -/
def szT : Value := .agg #[.nilFunc, .func (.func 93) #[] #[], .func (.func 94) #[] #[], .nilFunc, .func (.func 95) #[] #[], .nilFunc, .nilFunc, .nilFunc, .func (.func 96) #[] #[]]

set_option maxRecDepth 100000 in
theorem isSize_nil (k : Int) (h0 : (0 : Int) ≤ k) (h8 : k ≤ (8 : Int)) (w : World)
    (hix : ∀ w, (Instr.index 70 (.agg #[.nilFunc, .func (.func 93) #[] #[], .func (.func 94) #[] #[], .nilFunc, .func (.func 95) #[] #[], .nilFunc, .nilFunc, .nilFunc, .func (.func 96) #[] #[]]) (.int .i64 k)).run Try.prog w = .ok .nilFunc w) :
    Calls Try.prog 80 #[.int .i64 k] w fun e w' => e = .returned (.bool false) ∧ Below w.heap.size w w' := by
  have hne : ∀ w, (binOp .neq 69 .nilFunc .nilFunc).run Try.prog w = .ok (.bool false) w := fun _ => by kernel_rfl
  go_enter Try.func80, Try.ntmps80
  go_wp2_with (go_at_call 58; refine (sizes_any _).mono ?_; rintro e w1 ⟨rfl, hb1⟩)
  go_ret
  exact ⟨rfl, hb1⟩

set_option maxRecDepth 100000 in
theorem isSize_fn (k : Int) (m : Nat) (h0 : (0 : Int) ≤ k) (h8 : k ≤ (8 : Int)) (w : World)
    (hix : ∀ w, (Instr.index 70 (.agg #[.nilFunc, .func (.func 93) #[] #[], .func (.func 94) #[] #[], .nilFunc, .func (.func 95) #[] #[], .nilFunc, .nilFunc, .nilFunc, .func (.func 96) #[] #[]]) (.int .i64 k)).run Try.prog w = .ok (.func (.func m) #[] #[]) w) :
    Calls Try.prog 80 #[.int .i64 k] w fun e w' => e = .returned (.bool true) ∧ Below w.heap.size w w' := by
  have hne : ∀ w, (binOp .neq 69 (.func (.func m) #[] #[]) .nilFunc).run Try.prog w = .ok (.bool true) w := fun _ => by kernel_rfl
  go_enter Try.func80, Try.ntmps80
  go_wp2_with (go_at_call 58; refine (sizes_any _).mono ?_; rintro e w1 ⟨rfl, hb1⟩)
  go_ret
  exact ⟨rfl, hb1⟩

theorem isSize_any (k : Int) (w : World) : Calls Try.prog 80 #[.int .i64 k] w fun e w' => e = .returned (.bool (szB k)) ∧ Below w.heap.size w w' := by
  by_cases h0 : (0 : Int) ≤ k
  · by_cases h8 : k ≤ (8 : Int)
    · have : k = 0 ∨ k = 1 ∨ k = 2 ∨ k = 3 ∨ k = 4 ∨ k = 5 ∨ k = 6 ∨ k = 7 ∨ k = 8 := by omega
      rcases this with rfl | rfl | rfl | rfl | rfl | rfl | rfl | rfl | rfl
      · exact isSize_nil 0 (by decide) (by decide) w fun _ => by kernel_rfl
      · exact isSize_fn 1 93 (by decide) (by decide) w fun _ => by kernel_rfl
      · exact isSize_fn 2 94 (by decide) (by decide) w fun _ => by kernel_rfl
      · exact isSize_nil 3 (by decide) (by decide) w fun _ => by kernel_rfl
      · exact isSize_fn 4 95 (by decide) (by decide) w fun _ => by kernel_rfl
      · exact isSize_nil 5 (by decide) (by decide) w fun _ => by kernel_rfl
      · exact isSize_nil 6 (by decide) (by decide) w fun _ => by kernel_rfl
      · exact isSize_nil 7 (by decide) (by decide) w fun _ => by kernel_rfl
      · exact isSize_fn 8 96 (by decide) (by decide) w fun _ => by kernel_rfl
    · have HF : Hid (false = szB k) := Lib.hid (by simp [szB]; omega)
      go_enter Try.func80, Try.ntmps80
      go_wp2
      go_ret
      exact ⟨ret_bool HF.out, Below.refl _ _⟩
  · have HF : Hid (false = szB k) := Lib.hid (by simp [szB]; omega)
    go_enter Try.func80, Try.ntmps80
    go_wp2
    go_ret
    exact ⟨ret_bool HF.out, Below.refl _ _⟩

theorem refSize_any (k : Int) (w : World) : Calls Try.prog 83 #[.int .i64 k] w fun e w' => e = .returned (.bool (szB k)) ∧ w = w' := by
  have HF : Hid ((k == 1 || k == 2 || k == 4 || k == 8) = szB k) := Lib.hid (by unfold szB; congr)
  go_enter Try.func83, Try.ntmps83
  go_wp2
  all_goals (go_ret; exact ⟨ret_bool (by first | exact HF.out | simp [szB, *]), rfl⟩)

/-- What Pad returns. -/
def padV (p n : Int) : Int := if p < 0 then 0 else if szB n then padN p n else 0
def padE (p n : Int) : Int := if p < 0 then 7 else if szB n then 0 else 7

theorem padding_free (p s : Int) (w : World) (hp : 0 ≤ p) (hs : 1 ≤ s) (hs2 : s ≤ 8) :
    Calls Try.prog 81 #[.int .i64 p, .int .i64 s] w fun e w' => e = .returned (.int .i64 (padN p s)) ∧ w = w' := by
  have h1 : 0 ≤ p % s := Int.emod_nonneg _ (by omega)
  have h2 : p % s < s := Int.emod_lt_of_pos _ (by omega)
  go_enter Try.func81, Try.ntmps81
  go_wp2
  go_ret
  exact ⟨rfl, rfl⟩

theorem ret_two {k l : IntKind} {a b c d : Int} (h : a = b) (h2 : c = d) : Ending.returned (.tuple #[.int k a, .int l c]) = .returned (.tuple #[.int k b, .int l d]) := by rw [h, h2]

theorem pad34 (p n : Int) (w : World) : Calls Try.prog 34 #[.int .i64 p, .int .i64 n] w fun e w' => e = .returned (.tuple #[.int .i64 (padV p n), .int .i64 (padE p n)]) ∧ Below w.heap.size w w' := by
  by_cases hp : p < 0
  · have HV : Hid (0 = padV p n) := Lib.hid (by simp [padV, hp])
    have HE : Hid (7 = padE p n) := Lib.hid (by simp [padE, hp])
    go_enter Try.func34, Try.ntmps34
    go_wp2
    go_ret2
    exact ⟨ret_two HV.out HE.out, Below.refl _ _⟩
  · obtain ⟨r, hr⟩ : ∃ r, szB n = r := ⟨_, rfl⟩
    have HR := Lib.hid hr
    cases r
    · have HV : Hid (0 = padV p n) := Lib.hid (by simp [padV, hp, hr])
      have HE : Hid (7 = padE p n) := Lib.hid (by simp [padE, hp, hr])
      clear hr
      go_enter Try.func34, Try.ntmps34
      go_wp2_with (go_at_call 80; refine (isSize_any n _).mono ?_; rintro e w1 ⟨rfl, hb1⟩; rw [HR.out])
      go_ret2
      exact ⟨ret_two HV.out HE.out, hb1⟩
    · have HV : Hid (padN p n = padV p n) := Lib.hid (by simp [padV, hp, hr])
      have HE : Hid (0 = padE p n) := Lib.hid (by simp [padE, hp, hr])
      have hn := (szB_iff n).1 hr
      have hn1 : 1 ≤ n := by omega
      have hn8 : n ≤ 8 := by omega
      clear hr hn
      go_enter Try.func34, Try.ntmps34
      go_wp2_with (first | (go_at_call 80; refine (isSize_any n _).mono ?_; rintro e w1 ⟨rfl, hb1⟩; rw [HR.out]) | (go_at_call 81; refine (padding_free p n _ (by omega) hn1 hn8).mono ?_; rintro e w2 ⟨rfl, rfl⟩))
      go_ret2
      exact ⟨ret_two HV.out HE.out, hb1⟩

theorem pad35 (p n : Int) (w : World) : Calls Try.prog 35 #[.int .i64 p, .int .i64 n] w fun e w' => e = .returned (.tuple #[.int .i64 (padV p n), .int .i64 (padE p n)]) ∧ w = w' := by
  by_cases hp : p < 0
  · have HV : Hid (0 = padV p n) := Lib.hid (by simp [padV, hp])
    have HE : Hid (7 = padE p n) := Lib.hid (by simp [padE, hp])
    go_enter Try.func35, Try.ntmps35
    go_wp2
    go_ret2
    exact ⟨ret_two HV.out HE.out, rfl⟩
  · obtain ⟨r, hr⟩ : ∃ r, szB n = r := ⟨_, rfl⟩
    have HR := Lib.hid hr
    cases r
    · have HV : Hid (0 = padV p n) := Lib.hid (by simp [padV, hp, hr])
      have HE : Hid (7 = padE p n) := Lib.hid (by simp [padE, hp, hr])
      clear hr
      go_enter Try.func35, Try.ntmps35
      go_wp2_with (go_at_call 83; refine (refSize_any n _).mono ?_; rintro e w1 ⟨rfl, rfl⟩; rw [HR.out])
      go_ret2
      exact ⟨ret_two HV.out HE.out, rfl⟩
    · have HV : Hid (padN p n = padV p n) := Lib.hid (by simp [padV, hp, hr])
      have HE : Hid (0 = padE p n) := Lib.hid (by simp [padE, hp, hr])
      have hn := (szB_iff n).1 hr
      have hn1 : 1 ≤ n := by omega
      have hn8 : n ≤ 8 := by omega
      clear hr hn
      have h0 : 0 ≤ p := by omega
      have h1 : 0 ≤ p % n := Int.emod_nonneg _ (by omega)
      have h2 : p % n < n := Int.emod_lt_of_pos _ (by omega)
      go_enter Try.func35, Try.ntmps35
      go_wp2_with (go_at_call 83; refine (refSize_any n _).mono ?_; rintro e w1 ⟨rfl, rfl⟩; rw [HR.out])
      go_ret2
      exact ⟨ret_two HV.out HE.out, rfl⟩
end Go.Proofs.Ytdklmeamhcgohaa
