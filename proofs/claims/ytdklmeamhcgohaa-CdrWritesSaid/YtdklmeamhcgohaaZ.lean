/-
  PROVED HERE: what Put of a writer of package cdr returns where it refuses its arguments.
-/
import Derived.Test.YtdklmeamhcgohaaL
import Derived.Lib.QuietBelow
namespace Go.Proofs.Ytdklmeamhcgohaa
open Go.RowKit Go.Sort

/-- Does a long stand at a place? -/
def putP (a place : Int) (L : Nat) : Bool := decide (a ≤ place) && decide (place ≤ a + L - 4) && decide (place % 4 = 0)
/-- What Put returns. k: the place is right; f: the number fits. -/
def putC (k f : Bool) : Int := if k && f then 0 else 7
/-- Bytes with others over them. -/
def patch (out : List UInt8) (i : Nat) (l : List UInt8) : List UInt8 := out.take i ++ l ++ out.drop (i + l.length)
def putOut (k f : Bool) (out : List UInt8) (i : Nat) (l : List UInt8) : List UInt8 := if k && f then patch out i l else out

set_option maxRecDepth 100000 in
set_option maxHeartbeats 1600000 in
theorem put_bad_place (b : Nat) (big : Bool) (a place n : Int) (sv : Value) (out : List UInt8) (w : World) (h : Holds w b big a sv out) (ha : 0 ≤ a) (ha2 : a ≤ 7) (hL : out.length ≤ 100000000) (hk : putP a place out.length = false) :
    Calls Try.prog 20 #[.pointer (some ⟨b, 0, none⟩), .int .i64 place, .int .i64 n] w fun e w' => e = .returned (.int .i64 7) ∧ ∃ sv', Holds w' b big a sv' out ∧ Wrote w w' b sv sv' := by
  obtain ⟨w0, hw0⟩ : ∃ w0, (w.alloc (.cells #[.pointer (some ⟨b, 0, none⟩)] 25)).alloc (.cells #[.int .i64 n] 3) = w0 := ⟨_, rfl⟩
  have hh0 : Holds w0 b big a sv out := hw0 ▸ (h.alloc _).alloc _
  have hs0 : w0.heap.size = w.heap.size + 2 := by rw [← hw0]; simp
  have bx : Boxed w0 w.heap.size 25 (.pointer (some ⟨b, 0, none⟩)) := hw0 ▸ (Boxed.new w 25 _).alloc _
  have bn : Boxed w0 (w.heap.size + 1) 3 (.int .i64 n) := by rw [← hw0]; have := Boxed.new (w.alloc (.cells #[.pointer (some ⟨b, 0, none⟩)] 25)) 3 (.int .i64 n); rwa [World.size_alloc] at this
  have hw00 : Wrote w w0 b sv sv := hw0 ▸ ((Wrote.refl w b sv).alloc _).alloc _
  have cb := bx.cell
  have cn := bn.cell
  have c1 := hh0.1.c1
  have c2 := hh0.1.c2
  obtain ⟨ao, cap, rfl⟩ := h.form
  have PL := Lib.hid fun k => place_any b big a ao out.length cap (w0.drewN k) (hh0.drewN k).1 ha ha2 (by omega)
  have HW := Lib.hid hw00
  have HH := Lib.hid hh0
  have Hw0 := Lib.hid hw0
  clear hh0 hw00 bx bn hw0 h hs0
  by_cases h1 : place < a
  · go_enter Try.func20, Try.ntmps20
    go_wp2_with fail
    rw [Hw0.out]
    go_quiet (fail)
    go_wp2_with fail
    go_ret
    first | exact ⟨rfl, _, HH.out.drewN nq, HW.out.drewN nq⟩ | exact ⟨_, rfl, HH.out.drewN nq, HW.out.drewN nq⟩
  · by_cases h2 : a + out.length - 4 < place
    · have hd1 : decide (place < a) = false := by simp; omega
      go_enter Try.func20, Try.ntmps20
      go_wp2_with fail
      rw [Hw0.out]
      go_quiet ((go_at_call 15; exact Calls.quiet_of (PL.out _)))
      go_wp2_with fail
      go_ret
      first | exact ⟨rfl, _, HH.out.drewN nq, HW.out.drewN nq⟩ | exact ⟨_, rfl, HH.out.drewN nq, HW.out.drewN nq⟩
    · have h3 : ¬ place % 4 = 0 := by
        intro h3
        have : putP a place out.length = true := by
          simp only [putP, Bool.and_eq_true, decide_eq_true_eq]
          omega
        rw [this] at hk
        cases hk
      have h4 : ¬ place.tmod 4 = 0 := by rw [Int.tmod_eq_emod_of_nonneg (by omega)]; exact h3
      have hp0 : 0 ≤ place := by omega
      have hd1 : decide (place < a) = false := by simp; omega
      have hd2 : decide (a + out.length - 4 < place) = false := by simp; omega
      have hd3 : (place.tmod 4 == 0) = false := by simpa using h4
      have hwr : IntKind.i64.wrap (a + out.length - 4) = a + out.length - 4 := IntWalk.i64_in _ (by omega)
      go_enter Try.func20, Try.ntmps20
      go_wp2_with fail
      rw [Hw0.out]
      go_quiet ((go_at_call 15; exact Calls.quiet_of (PL.out _)))
      go_wp2_with fail
      go_ret
      first | exact ⟨rfl, _, HH.out.drewN nq, HW.out.drewN nq⟩ | exact ⟨_, rfl, HH.out.drewN nq, HW.out.drewN nq⟩
end Go.Proofs.Ytdklmeamhcgohaa
