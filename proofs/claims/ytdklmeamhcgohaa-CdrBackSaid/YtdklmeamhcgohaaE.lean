/- The contracts of (*cdr.Writer).number and of what calls it alone. -/
import Derived.Test.YtdklmeamhcgohaaD
import Derived.Laws.EntriesVeiled
namespace Go.Proofs.Ytdklmeamhcgohaa
open Go.RowKit

theorem Below.grownBy {W W' : World} (h : Below W.heap.size W W') : W.grownBy W' none := ⟨h.os, h.tape, h.output, h.size, fun k hk _ => h.block k hk⟩
theorem Holds.below {W W' : World} {b : Nat} {big : Bool} {a : Int} {sv : Value} {out : List UInt8} (h : Holds W b big a sv out) (hb : Below W.heap.size W W') : Holds W' b big a sv out :=
  h.kept (Below.grownBy hb) (fun r e => by cases e)
theorem Wrote.below {A B C : World} {b : Nat} {s t : Value} (h : Wrote A B b s t) (hb : Below B.heap.size B C) : Wrote A C b s t :=
  h.grown (Below.grownBy hb) (fun r e => by cases e)

theorem ret_bool {a b : Bool} (h : a = b) : Ending.returned (.bool a) = .returned (.bool b) := by rw [h]
theorem ret_int {k : IntKind} {a b : Int} (h : a = b) : Ending.returned (.int k a) = .returned (.int k b) := by rw [h]

/-- Does a number fit into s bytes? -/
def fitsN (s : Nat) (n : Int) : Bool :=
  if s = 1 then decide (0 ≤ n ∧ n ≤ 255) else if s = 2 then decide (-32768 ≤ n ∧ n ≤ 32767) else if s = 4 then decide (-2147483648 ≤ n ∧ n ≤ 2147483647) else true

set_option maxHeartbeats 400000 in
theorem sizes_any (w : World) :
    Calls Try.prog 58 #[] w fun e w' => e = .returned (.agg #[.nilFunc, .func (.func 93) #[] #[], .func (.func 94) #[] #[], .nilFunc, .func (.func 95) #[] #[], .nilFunc, .nilFunc, .nilFunc, .func (.func 96) #[] #[]]) ∧ Below w.heap.size w w' := by
  go_enter Try.func58, Try.ntmps58
  go_wp2
  refine bodyPost_ret (v := .agg #[.nilFunc, .func (.func 93) #[] #[], .func (.func 94) #[] #[], .nilFunc, .func (.func 95) #[] #[], .nilFunc, .nilFunc, .nilFunc, .func (.func 96) #[] #[]]) (by simp [results, Try.results58, go_sem]) rfl ⟨rfl, ?_⟩
  exact (Below.refl _ _).alloc (Nat.le_refl _) _


set_option maxHeartbeats 400000 in
theorem fit1 (n : Int) (w : World) : Calls Try.prog 93 #[.int .i64 n] w fun e w' => e = .returned (.bool (fitsN 1 n)) ∧ w = w' := by
  by_cases h : 0 ≤ n
  · have HF : Hid (decide (n ≤ 255) = fitsN 1 n) := Lib.hid (by simp [fitsN, h])
    go_enter Try.func93, Try.ntmps93
    go_wp2
    go_ret
    exact ⟨ret_bool HF.out, rfl⟩
  · have HF : Hid (false = fitsN 1 n) := Lib.hid (by simp [fitsN, h])
    go_enter Try.func93, Try.ntmps93
    go_wp2
    go_ret
    exact ⟨ret_bool HF.out, rfl⟩

set_option maxHeartbeats 400000 in
theorem fit2 (n : Int) (w : World) : Calls Try.prog 94 #[.int .i64 n] w fun e w' => e = .returned (.bool (fitsN 2 n)) ∧ w = w' := by
  by_cases h : -32768 ≤ n
  · have HF : Hid (decide (n ≤ 32767) = fitsN 2 n) := Lib.hid (by simp [fitsN, h])
    go_enter Try.func94, Try.ntmps94
    go_wp2
    go_ret
    exact ⟨ret_bool HF.out, rfl⟩
  · have HF : Hid (false = fitsN 2 n) := Lib.hid (by simp [fitsN, h])
    go_enter Try.func94, Try.ntmps94
    go_wp2
    go_ret
    exact ⟨ret_bool HF.out, rfl⟩

set_option maxHeartbeats 400000 in
theorem fit4 (n : Int) (w : World) : Calls Try.prog 95 #[.int .i64 n] w fun e w' => e = .returned (.bool (fitsN 4 n)) ∧ w = w' := by
  by_cases h : -2147483648 ≤ n
  · have HF : Hid (decide (n ≤ 2147483647) = fitsN 4 n) := Lib.hid (by simp [fitsN, h])
    go_enter Try.func95, Try.ntmps95
    go_wp2
    go_ret
    exact ⟨ret_bool HF.out, rfl⟩
  · have HF : Hid (false = fitsN 4 n) := Lib.hid (by simp [fitsN, h])
    go_enter Try.func95, Try.ntmps95
    go_wp2
    go_ret
    exact ⟨ret_bool HF.out, rfl⟩

theorem fit8 (n : Int) (w : World) : Calls Try.prog 96 #[.int .i64 n] w fun e w' => e = .returned (.bool (fitsN 8 n)) ∧ w = w' := by
  have HF : Hid (true = fitsN 8 n) := Lib.hid (by simp [fitsN])
  go_enter Try.func96, Try.ntmps96
  go_wp2
  go_ret
  exact ⟨ret_bool HF.out, rfl⟩

/-- Is there room for n bytes behind the padding for a size? -/
def roomB (a s n : Int) (L : Nat) : Bool := decide ((L : Int) + padN (a + L) s + n ≤ 65536)
theorem has_room (b : Nat) (big : Bool) (a s n : Int) (sv : Value) (out : List UInt8) (w : World) (h : Holds w b big a sv out) (ha : 0 ≤ a) (ha2 : a ≤ 7) (hL : out.length ≤ 100000000)
    (hs : 1 ≤ s) (hs2 : s ≤ 8) (hn : 0 ≤ n) (hn2 : n ≤ 1000000000000) (r : Bool) (hr : roomB a s n out.length = r) :
    Calls Try.prog 85 #[.pointer (some ⟨b, 0, none⟩), .int .i64 s, .int .i64 n] w fun e w' => e = .returned (.bool r) ∧ ∃ n, w' = w.drewN n := by
  obtain ⟨ao, cap, rfl⟩ := h.form
  subst hr
  exact has_any b big a s n ao out.length cap w h.1 ha ha2 (by omega) hs hs2 hn hn2

/-- What writing a number returns, and what is written. f: it fits; r: there is room. -/
def numC (f r : Bool) : Int := if f then if r then 0 else 4 else 7
def numOut (f r : Bool) (out : List UInt8) (p : Nat) (l : List UInt8) : List UInt8 := if f && r then out ++ List.replicate p 0 ++ l else out

set_option maxRecDepth 100000 in
set_option maxHeartbeats 800000 in
theorem number1 (b : Nat) (big : Bool) (a n : Int) (sv : Value) (out : List UInt8) (w : World) (h : Holds w b big a sv out) (ha : 0 ≤ a) (ha2 : a ≤ 7) (hL : out.length ≤ 100000000) (p : Nat) (hp : padN (a + out.length) ((1 : Nat) : Int) = p)
    (f r : Bool) (hf : fitsN 1 n = f) (hr : roomB a 1 1 out.length = r) :
    Calls Try.prog 57 #[.pointer (some ⟨b, 0, none⟩), .int .i64 1, .int .i64 n] w fun e w' => ∃ sv', e = .returned (.int .i64 (numC f r)) ∧
      Holds w' b big a sv' (numOut f r out p (numB n big 1)) ∧ Wrote w w' b sv sv' := by
  have HF := Lib.hid hf
  have HR := Lib.hid hr
  have HP := Lib.hid hp
  clear hf hr hp
  have hix : ∀ w, (Instr.index 70 (.agg #[.nilFunc, .func (.func 93) #[] #[], .func (.func 94) #[] #[], .nilFunc, .func (.func 95) #[] #[], .nilFunc, .nilFunc, .nilFunc, .func (.func 96) #[] #[]]) (.int .i64 1)).run Try.prog w = .ok (.func (.func 93) #[] #[]) w := fun _ => by kernel_rfl
  cases f
  · go_enter Try.func57, Try.ntmps57
    go_wp2_with (first | (go_at_call 58; refine (sizes_any _).mono ?_; rintro e w1 ⟨rfl, hb1⟩) | (go_at_call 93; refine (fit1 n _).mono ?_; rintro e w2 ⟨rfl, rfl⟩; rw [HF.out]))
    go_ret
    exact ⟨sv, rfl, h.below hb1, (Wrote.refl w b sv).below hb1⟩
  · cases r
    · go_enter Try.func57, Try.ntmps57
      go_wp2_with (first | (go_at_call 58; refine (sizes_any _).mono ?_; rintro e w1 ⟨rfl, hb1⟩) | (go_at_call 93; refine (fit1 n _).mono ?_; rintro e w2 ⟨rfl, rfl⟩; rw [HF.out]) | (go_at_call 85; refine (has_room b big a 1 1 sv out _ (h.below hb1) ha ha2 hL (by omega) (by omega) (by omega) (by omega) false HR.out).mono ?_; rintro e w2 ⟨rfl, nq, rfl⟩))
      go_ret
      exact ⟨sv, rfl, (h.below hb1).drewN nq, ((Wrote.refl w b sv).below hb1).drewN nq⟩
    · go_enter Try.func57, Try.ntmps57
      go_wp2_with (first | (go_at_call 58; refine (sizes_any _).mono ?_; rintro e w1 ⟨rfl, hb1⟩) | (go_at_call 93; refine (fit1 n _).mono ?_; rintro e w2 ⟨rfl, rfl⟩; rw [HF.out]) | (go_at_call 85; refine (has_room b big a 1 1 sv out _ (h.below hb1) ha ha2 hL (by omega) (by omega) (by omega) (by omega) true HR.out).mono ?_; rintro e w2 ⟨rfl, nq, rfl⟩) | (go_at_call 92; refine (add_any b big a n 1 sv out _ ((h.below hb1).drewN nq) ha ha2 hL (by omega) (by omega) p HP.out).mono ?_; rintro e w2 ⟨rfl, sv2, hh2, hw2⟩))
      go_ret
      exact ⟨sv2, rfl, hh2, (((Wrote.refl w b sv).below hb1).drewN nq).trans hw2⟩

set_option maxRecDepth 100000 in
set_option maxHeartbeats 800000 in
theorem number2 (b : Nat) (big : Bool) (a n : Int) (sv : Value) (out : List UInt8) (w : World) (h : Holds w b big a sv out) (ha : 0 ≤ a) (ha2 : a ≤ 7) (hL : out.length ≤ 100000000) (p : Nat) (hp : padN (a + out.length) ((2 : Nat) : Int) = p)
    (f r : Bool) (hf : fitsN 2 n = f) (hr : roomB a 2 2 out.length = r) :
    Calls Try.prog 57 #[.pointer (some ⟨b, 0, none⟩), .int .i64 2, .int .i64 n] w fun e w' => ∃ sv', e = .returned (.int .i64 (numC f r)) ∧
      Holds w' b big a sv' (numOut f r out p (numB n big 2)) ∧ Wrote w w' b sv sv' := by
  have HF := Lib.hid hf
  have HR := Lib.hid hr
  have HP := Lib.hid hp
  clear hf hr hp
  have hix : ∀ w, (Instr.index 70 (.agg #[.nilFunc, .func (.func 93) #[] #[], .func (.func 94) #[] #[], .nilFunc, .func (.func 95) #[] #[], .nilFunc, .nilFunc, .nilFunc, .func (.func 96) #[] #[]]) (.int .i64 2)).run Try.prog w = .ok (.func (.func 94) #[] #[]) w := fun _ => by kernel_rfl
  cases f
  · go_enter Try.func57, Try.ntmps57
    go_wp2_with (first | (go_at_call 58; refine (sizes_any _).mono ?_; rintro e w1 ⟨rfl, hb1⟩) | (go_at_call 94; refine (fit2 n _).mono ?_; rintro e w2 ⟨rfl, rfl⟩; rw [HF.out]))
    go_ret
    exact ⟨sv, rfl, h.below hb1, (Wrote.refl w b sv).below hb1⟩
  · cases r
    · go_enter Try.func57, Try.ntmps57
      go_wp2_with (first | (go_at_call 58; refine (sizes_any _).mono ?_; rintro e w1 ⟨rfl, hb1⟩) | (go_at_call 94; refine (fit2 n _).mono ?_; rintro e w2 ⟨rfl, rfl⟩; rw [HF.out]) | (go_at_call 85; refine (has_room b big a 2 2 sv out _ (h.below hb1) ha ha2 hL (by omega) (by omega) (by omega) (by omega) false HR.out).mono ?_; rintro e w2 ⟨rfl, nq, rfl⟩))
      go_ret
      exact ⟨sv, rfl, (h.below hb1).drewN nq, ((Wrote.refl w b sv).below hb1).drewN nq⟩
    · go_enter Try.func57, Try.ntmps57
      go_wp2_with (first | (go_at_call 58; refine (sizes_any _).mono ?_; rintro e w1 ⟨rfl, hb1⟩) | (go_at_call 94; refine (fit2 n _).mono ?_; rintro e w2 ⟨rfl, rfl⟩; rw [HF.out]) | (go_at_call 85; refine (has_room b big a 2 2 sv out _ (h.below hb1) ha ha2 hL (by omega) (by omega) (by omega) (by omega) true HR.out).mono ?_; rintro e w2 ⟨rfl, nq, rfl⟩) | (go_at_call 92; refine (add_any b big a n 2 sv out _ ((h.below hb1).drewN nq) ha ha2 hL (by omega) (by omega) p HP.out).mono ?_; rintro e w2 ⟨rfl, sv2, hh2, hw2⟩))
      go_ret
      exact ⟨sv2, rfl, hh2, (((Wrote.refl w b sv).below hb1).drewN nq).trans hw2⟩

set_option maxRecDepth 100000 in
set_option maxHeartbeats 800000 in
theorem number4 (b : Nat) (big : Bool) (a n : Int) (sv : Value) (out : List UInt8) (w : World) (h : Holds w b big a sv out) (ha : 0 ≤ a) (ha2 : a ≤ 7) (hL : out.length ≤ 100000000) (p : Nat) (hp : padN (a + out.length) ((4 : Nat) : Int) = p)
    (f r : Bool) (hf : fitsN 4 n = f) (hr : roomB a 4 4 out.length = r) :
    Calls Try.prog 57 #[.pointer (some ⟨b, 0, none⟩), .int .i64 4, .int .i64 n] w fun e w' => ∃ sv', e = .returned (.int .i64 (numC f r)) ∧
      Holds w' b big a sv' (numOut f r out p (numB n big 4)) ∧ Wrote w w' b sv sv' := by
  have HF := Lib.hid hf
  have HR := Lib.hid hr
  have HP := Lib.hid hp
  clear hf hr hp
  have hix : ∀ w, (Instr.index 70 (.agg #[.nilFunc, .func (.func 93) #[] #[], .func (.func 94) #[] #[], .nilFunc, .func (.func 95) #[] #[], .nilFunc, .nilFunc, .nilFunc, .func (.func 96) #[] #[]]) (.int .i64 4)).run Try.prog w = .ok (.func (.func 95) #[] #[]) w := fun _ => by kernel_rfl
  cases f
  · go_enter Try.func57, Try.ntmps57
    go_wp2_with (first | (go_at_call 58; refine (sizes_any _).mono ?_; rintro e w1 ⟨rfl, hb1⟩) | (go_at_call 95; refine (fit4 n _).mono ?_; rintro e w2 ⟨rfl, rfl⟩; rw [HF.out]))
    go_ret
    exact ⟨sv, rfl, h.below hb1, (Wrote.refl w b sv).below hb1⟩
  · cases r
    · go_enter Try.func57, Try.ntmps57
      go_wp2_with (first | (go_at_call 58; refine (sizes_any _).mono ?_; rintro e w1 ⟨rfl, hb1⟩) | (go_at_call 95; refine (fit4 n _).mono ?_; rintro e w2 ⟨rfl, rfl⟩; rw [HF.out]) | (go_at_call 85; refine (has_room b big a 4 4 sv out _ (h.below hb1) ha ha2 hL (by omega) (by omega) (by omega) (by omega) false HR.out).mono ?_; rintro e w2 ⟨rfl, nq, rfl⟩))
      go_ret
      exact ⟨sv, rfl, (h.below hb1).drewN nq, ((Wrote.refl w b sv).below hb1).drewN nq⟩
    · go_enter Try.func57, Try.ntmps57
      go_wp2_with (first | (go_at_call 58; refine (sizes_any _).mono ?_; rintro e w1 ⟨rfl, hb1⟩) | (go_at_call 95; refine (fit4 n _).mono ?_; rintro e w2 ⟨rfl, rfl⟩; rw [HF.out]) | (go_at_call 85; refine (has_room b big a 4 4 sv out _ (h.below hb1) ha ha2 hL (by omega) (by omega) (by omega) (by omega) true HR.out).mono ?_; rintro e w2 ⟨rfl, nq, rfl⟩) | (go_at_call 92; refine (add_any b big a n 4 sv out _ ((h.below hb1).drewN nq) ha ha2 hL (by omega) (by omega) p HP.out).mono ?_; rintro e w2 ⟨rfl, sv2, hh2, hw2⟩))
      go_ret
      exact ⟨sv2, rfl, hh2, (((Wrote.refl w b sv).below hb1).drewN nq).trans hw2⟩

set_option maxRecDepth 100000 in
set_option maxHeartbeats 800000 in
theorem number8 (b : Nat) (big : Bool) (a n : Int) (sv : Value) (out : List UInt8) (w : World) (h : Holds w b big a sv out) (ha : 0 ≤ a) (ha2 : a ≤ 7) (hL : out.length ≤ 100000000) (p : Nat) (hp : padN (a + out.length) ((8 : Nat) : Int) = p)
    (f r : Bool) (hf : fitsN 8 n = f) (hr : roomB a 8 8 out.length = r) :
    Calls Try.prog 57 #[.pointer (some ⟨b, 0, none⟩), .int .i64 8, .int .i64 n] w fun e w' => ∃ sv', e = .returned (.int .i64 (numC f r)) ∧
      Holds w' b big a sv' (numOut f r out p (numB n big 8)) ∧ Wrote w w' b sv sv' := by
  have HF := Lib.hid hf
  have HR := Lib.hid hr
  have HP := Lib.hid hp
  clear hf hr hp
  have hix : ∀ w, (Instr.index 70 (.agg #[.nilFunc, .func (.func 93) #[] #[], .func (.func 94) #[] #[], .nilFunc, .func (.func 95) #[] #[], .nilFunc, .nilFunc, .nilFunc, .func (.func 96) #[] #[]]) (.int .i64 8)).run Try.prog w = .ok (.func (.func 96) #[] #[]) w := fun _ => by kernel_rfl
  cases f
  · go_enter Try.func57, Try.ntmps57
    go_wp2_with (first | (go_at_call 58; refine (sizes_any _).mono ?_; rintro e w1 ⟨rfl, hb1⟩) | (go_at_call 96; refine (fit8 n _).mono ?_; rintro e w2 ⟨rfl, rfl⟩; rw [HF.out]))
    go_ret
    exact ⟨sv, rfl, h.below hb1, (Wrote.refl w b sv).below hb1⟩
  · cases r
    · go_enter Try.func57, Try.ntmps57
      go_wp2_with (first | (go_at_call 58; refine (sizes_any _).mono ?_; rintro e w1 ⟨rfl, hb1⟩) | (go_at_call 96; refine (fit8 n _).mono ?_; rintro e w2 ⟨rfl, rfl⟩; rw [HF.out]) | (go_at_call 85; refine (has_room b big a 8 8 sv out _ (h.below hb1) ha ha2 hL (by omega) (by omega) (by omega) (by omega) false HR.out).mono ?_; rintro e w2 ⟨rfl, nq, rfl⟩))
      go_ret
      exact ⟨sv, rfl, (h.below hb1).drewN nq, ((Wrote.refl w b sv).below hb1).drewN nq⟩
    · go_enter Try.func57, Try.ntmps57
      go_wp2_with (first | (go_at_call 58; refine (sizes_any _).mono ?_; rintro e w1 ⟨rfl, hb1⟩) | (go_at_call 96; refine (fit8 n _).mono ?_; rintro e w2 ⟨rfl, rfl⟩; rw [HF.out]) | (go_at_call 85; refine (has_room b big a 8 8 sv out _ (h.below hb1) ha ha2 hL (by omega) (by omega) (by omega) (by omega) true HR.out).mono ?_; rintro e w2 ⟨rfl, nq, rfl⟩) | (go_at_call 92; refine (add_any b big a n 8 sv out _ ((h.below hb1).drewN nq) ha ha2 hL (by omega) (by omega) p HP.out).mono ?_; rintro e w2 ⟨rfl, sv2, hh2, hw2⟩))
      go_ret
      exact ⟨sv2, rfl, hh2, (((Wrote.refl w b sv).below hb1).drewN nq).trans hw2⟩

end Go.Proofs.Ytdklmeamhcgohaa
