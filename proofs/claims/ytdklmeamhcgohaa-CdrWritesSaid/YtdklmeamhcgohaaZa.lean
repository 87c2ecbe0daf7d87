/-
  PROVED HERE: what Put of a writer of package cdr returns where the place is right and the number does not fit.
-/
import Derived.Test.YtdklmeamhcgohaaZ
namespace Go.Proofs.Ytdklmeamhcgohaa
open Go.RowKit Go.Sort

theorem Below.ofDrewN (W : World) (n : Nat) : Below W.heap.size W (W.drewN n) := ⟨rfl, rfl, rfl, Nat.le_refl _, fun _ _ => rfl⟩

set_option maxRecDepth 100000 in
set_option maxHeartbeats 1600000 in
theorem put_bad_num (b : Nat) (big : Bool) (a place n : Int) (sv : Value) (out : List UInt8) (w : World) (h : Holds w b big a sv out) (ha : 0 ≤ a) (ha2 : a ≤ 7) (hL : out.length ≤ 100000000) (hk : putP a place out.length = true) (hf : fitsN 4 n = false) :
    Calls Try.prog 20 #[.pointer (some ⟨b, 0, none⟩), .int .i64 place, .int .i64 n] w fun e w' => e = .returned (.int .i64 7) ∧ ∃ sv', Holds w' b big a sv' out ∧ Wrote w w' b sv sv' := by
  obtain ⟨w0, hw0⟩ : ∃ w0, (w.alloc (.cells #[.pointer (some ⟨b, 0, none⟩)] 25)).alloc (.cells #[.int .i64 n] 3) = w0 := ⟨_, rfl⟩
  have hh0 : Holds w0 b big a sv out := hw0 ▸ (h.alloc _).alloc _
  have bx : Boxed w0 w.heap.size 25 (.pointer (some ⟨b, 0, none⟩)) := hw0 ▸ (Boxed.new w 25 _).alloc _
  have bn : Boxed w0 (w.heap.size + 1) 3 (.int .i64 n) := by rw [← hw0]; have := Boxed.new (w.alloc (.cells #[.pointer (some ⟨b, 0, none⟩)] 25)) 3 (.int .i64 n); rwa [World.size_alloc] at this
  have hw00 : Wrote w w0 b sv sv := hw0 ▸ ((Wrote.refl w b sv).alloc _).alloc _
  obtain ⟨ao, cap, rfl⟩ := h.form
  have kb := cell_regrown bx.cell
  have kn := cell_regrown bn.cell
  have k1 := cell_regrown hh0.1.c1
  have cP : Hid (∀ d os, Calls Try.prog 15 #[.pointer (some ⟨b, 0, none⟩)] (grow (redrawn w0 d) os) fun e w'' => e = .returned (.int .i64 (a + out.length)) ∧ ∃ p : Regrown, w'' = grow (redrawn w0 p.d) p.os) := Lib.hid fun d os => Calls.regrown_of
    ((place_any b big a ao out.length cap _ (hh0.below (below_regrown w0 d os)).1 ha ha2 (by omega)).mono fun _ _ ⟨he, m, hm⟩ => ⟨he, by rw [hm]; exact Below.ofDrewN _ _⟩)
  have cS := Lib.hid fun d os => Calls.regrown_of (sizes_any (grow (redrawn w0 d) os))
  have cF : Hid (∀ d os, Calls Try.prog 95 #[.int .i64 n] (grow (redrawn w0 d) os) fun e w'' => e = .returned (.bool false) ∧ ∃ p : Regrown, w'' = grow (redrawn w0 p.d) p.os) := Lib.hid fun d os => Calls.regrown_of
    ((fit4 n _).mono fun _ _ ⟨he, hm⟩ => ⟨by rw [he, hf], by rw [← hm]; exact Below.refl _ _⟩)
  have hix : ∀ w, (Instr.index 70 (.agg #[.nilFunc, .func (.func 93) #[] #[], .func (.func 94) #[] #[], .nilFunc, .func (.func 95) #[] #[], .nilFunc, .nilFunc, .nilFunc, .func (.func 96) #[] #[]]) (.int .i64 4)).run Try.prog w = .ok (.func (.func 95) #[] #[]) w := fun _ => by kernel_rfl
  have HW := Lib.hid hw00
  have HH := Lib.hid hh0
  have Hw0 := Lib.hid hw0
  simp only [putP, Bool.and_eq_true, decide_eq_true_eq] at hk
  obtain ⟨⟨q1, q2⟩, q3⟩ := hk
  have hp0 : 0 ≤ place := by omega
  have h4 : place.tmod 4 = 0 := by rw [Int.tmod_eq_emod_of_nonneg hp0]; exact q3
  have hd1 : decide (place < a) = false := by simp; omega
  have hd2 : decide (a + out.length - 4 < place) = false := by simp; omega
  have hd3 : (place.tmod 4 == 0) = true := by simpa using h4
  have hwr : IntKind.i64.wrap (a + out.length - 4) = a + out.length - 4 := IntWalk.i64_in _ (by omega)
  clear hh0 hw00 bx bn hw0 h hf q3
  go_enter Try.func20, Try.ntmps20
  go_wp2_with fail
  rw [Hw0.out]
  refine wp_region_quiet_below (by kernel_rfl) (by kernel_rfl) ?_
  repeat (quiet_step (first | exact cP.out _ _ | exact cS.out _ _ | exact cF.out _ _))
  refine wpQuiet_nil ?_
  intro _ hw'
  obtain ⟨⟨dq, osq⟩, hw''⟩ := hw'
  subst hw''
  go_wp2_with fail
  go_ret
  first | exact ⟨rfl, _, HH.out.below (below_regrown w0 dq osq), HW.out.below (below_regrown w0 dq osq)⟩ | exact ⟨_, rfl, HH.out.below (below_regrown w0 dq osq), HW.out.below (below_regrown w0 dq osq)⟩
end Go.Proofs.Ytdklmeamhcgohaa
