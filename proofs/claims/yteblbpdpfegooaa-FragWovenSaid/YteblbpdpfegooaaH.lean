/- The contracts of slices.ContainsFunc at numbers, and of Sizes of both packages. -/
import Derived.Test.YteblbpdpfegooaaG
namespace Go.Proofs.Yteblbpdpfegooaa
open Go.RowKit Go.BigFrame

def negOk (n : Int) : Bool := decide (0 ≤ n)

def allN (ss : List Int) : Bool := ss.all negOk

theorem negBad_any (n : Int) (w : World) : Calls Try.prog 43 #[.int .i64 n] w fun e w' => e = .returned (.bool (!negOk n)) ∧ w = w' := by
  unfold negOk
  by_cases h : n < 0
  · have e1 : decide (n < 0) = true := decide_eq_true h
    rw [decide_eq_false (show ¬ 0 ≤ n by omega)]
    go_enter Try.func43, Try.ntmps43
    go_wp2
    go_ret
    exact ⟨rfl, rfl⟩
  · have e1 : decide (n < 0) = false := decide_eq_false h
    rw [decide_eq_true (show 0 ≤ n by omega)]
    go_enter Try.func43, Try.ntmps43
    go_wp2
    go_ret
    exact ⟨rfl, rfl⟩

theorem all_bad {p : Int → Bool} {l : List Int} {i : Nat} (h : i < l.length) (hb : p l[i] = false) : l.all p = false := by
  cases ha : l.all p with
  | false => rfl
  | true =>
    have := List.all_eq_true.1 ha _ (List.getElem_mem h)
    rw [hb] at this
    cases this

def goodTo (p : Int → Bool) (l : List Int) (n : Nat) : Prop := ∀ i, i < n → ∀ h : i < l.length, p l[i] = true

theorem good_all {p : Int → Bool} {l : List Int} (h : goodTo p l l.length) : l.all p = true := List.all_eq_true.2 fun d hd => by
  obtain ⟨i, hi, rfl⟩ := List.getElem_of_mem hd
  exact h i hi hi

theorem goodTo.snoc {p : Int → Bool} {l : List Int} {n : Nat} (h : goodTo p l n) (hv : ∀ h : n < l.length, p l[n] = true) : goodTo p l (n + 1) := fun i hi hl => by
  by_cases e : i = n
  · subst e; exact hv hl
  · exact h i (by omega) hl

set_option maxRecDepth 100000 in
set_option maxHeartbeats 1000000 in
theorem indexNeg_any (ao : Option Addr) (cap : Nat) (l : List Int) (w : World) (h : IntRow w ao l) (hl : l.length ≤ 9223372036854775806) :
    Calls Try.prog 55 #[.slice ao l.length cap, .func (.func 43) #[] #[]] w fun e w' => ∃ k : Int, e = .returned (.int .i64 k) ∧ decide (0 ≤ k) = !l.all negOk ∧ w = w' := by
  have HR := Lib.hid h
  have HL := Lib.hid hl
  clear h hl
  go_enter Try.func55, Try.ntmps55
  go_wp2_with fail
  go_loopw [8] (fun i wr => ∃ k : Nat, i = .int .i64 k ∧ k ≤ l.length ∧ goodTo negOk l k ∧ w = wr) (fun i _ => l.length - (intOf i).toNat)
  case atStart => exact ⟨0, rfl, Nat.zero_le _, (fun i h => absurd h (Nat.not_lt_zero i)), rfl⟩
  case round =>
    obtain ⟨k, rfl, hk, hok, rfl⟩ := hrel
    have HK := Lib.hid hok
    clear hok
    by_cases hlt : k < l.length
    · rcases HR.out with h0 | ⟨b, off, rfl, hb, hp⟩
      · subst h0; exact absurd hlt (by simp)
      have c0 := hp k hlt
      obtain ⟨p, hpp⟩ : ∃ p, l[k] = p := ⟨_, rfl⟩
      rw [hpp] at c0
      have HPP := Lib.hid hpp
      have CC := Lib.hid (negBad_any p w)
      obtain ⟨r, hr⟩ : ∃ r, negOk p = r := ⟨_, rfl⟩
      rw [hr] at CC
      have HRR := Lib.hid hr
      have hk1 : (k : Int) < (l.length : Int) := by omega
      have hk2 : (k : Int) + 1 ≤ 9223372036854775807 := by have := HL.out; omega
      have hk0 : (0 : Int) ≤ (k : Int) := by omega
      clear hpp hr hp
      cases r
      · go_wp2_with (go_at_call 43; refine CC.out.mono ?_; rintro e w2 ⟨rfl, rfl⟩)
        go_ret
        exact ⟨k, rfl, by rw [all_bad hlt (by rw [HPP.out]; exact HRR.out)]; simp, rfl⟩
      · go_wp2_with (go_at_call 43; refine CC.out.mono ?_; rintro e w2 ⟨rfl, rfl⟩)
        exact ⟨⟨k + 1, by go_num, hlt, HK.out.snoc fun _ => by rw [HPP.out]; exact HRR.out, by first | rfl | trivial⟩, by simp [intOf]; omega⟩
    · obtain rfl : k = l.length := by omega
      have HA : Hid (l.all negOk = true) := Lib.hid (good_all HK.out)
      go_wp2_with fail
      go_ret
      exact ⟨-1, rfl, by rw [HA.out]; rfl, rfl⟩

set_option maxHeartbeats 1000000 in
theorem anyNeg_any (ao : Option Addr) (cap : Nat) (l : List Int) (w : World) (h : IntRow w ao l) (hl : l.length ≤ 9223372036854775806) :
    Calls Try.prog 42 #[.slice ao l.length cap, .func (.func 43) #[] #[]] w fun e w' => e = .returned (.bool (!l.all negOk)) ∧ w = w' := by
  have IX := Lib.hid (indexNeg_any ao cap l w h hl)
  clear h hl
  go_enter Try.func42, Try.ntmps42
  go_wp2_with (go_at_call 55; refine IX.out.mono ?_; rintro e w1 ⟨k, rfl, hk, rfl⟩; have HK := Lib.hid hk; clear hk)
  go_ret
  exact ⟨ret_bool HK.out, rfl⟩

/-- What Sizes returns, and its error. -/
def sizL (id : Int) (b : ByteArray) (ss : List Int) : List Pc := if msgB id b = true then (if allS ss = true then cutP id (gS ss) 0 b else []) else []

def sizE (id : Int) (b : ByteArray) (ss : List Int) : Int := if msgB id b = true then (if allS ss = true then 0 else 7) else 1

theorem sizL_len (id : Int) (b : ByteArray) (ss : List Int) : (sizL id b ss).length ≤ b.size + 1 := by
  unfold sizL
  split
  · split
    · exact cut_len id _ b.size 0 b (Nat.le_refl _)
    · simp
  · simp

end Go.Proofs.Yteblbpdpfegooaa
