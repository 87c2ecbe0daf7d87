/- near. -/
import Derived.Test.YticbjhogdfpdkaaDoorX
namespace Go.Proofs.YticbjhogdfpdkaaDoor
set_option maxRecDepth 8000
open Go.RowKit Go.Shelf

theorem run_max3 {P : Program} (w : World) (ts : Array TypeId) (t : TypeId) (x y z : Int) : (Builtin.max_ ts t #[.int .i64 x, .int .i64 y, .int .i64 z]).run P w = .ok (.int .i64 (max x (max y z))) w := by
  have e : (if z > (if y > x then y else x) then z else (if y > x then y else x)) = max x (max y z) := by
    rw [Int.max_def, Int.max_def]
    split <;> split <;> split <;> omega
  simp [Builtin.max_, Builtin.max2, e]

/-- How many places near leaves out. -/
def offT (n s : Nat) : Nat := max (s - 31) (digs n - 31)
def nearT (b : Bool) (n s : Nat) : ByteArray := if offT n s ≤ s then toldT b (n / 10 ^ offT n s) (s - offT n s) else ⟨#[]⟩
def nearE (n s : Nat) : Int := if offT n s ≤ s then toldE (n / 10 ^ offT n s) (s - offT n s) else 4

set_option maxRecDepth 100000 in
set_option maxHeartbeats 8000000 in
theorem near_any (n s : Nat) (b : Bool) (w : World) (hn : n < 10 ^ 128) (hs : s ≤ 900) :
    Calls Tryd.prog 83 #[.agg (nC n s b)] w fun e w' => e = .returned (.tuple #[.string (nearT b n s), .int .i64 (nearE n s)]) ∧ Below w.heap.size w w' := by
  have HA := Lib.hid (show NumAt (w.alloc (.cells (nC n s b) 45)) w.heap.size n s b from at_block w (.cells (nC n s b) 45) _ rfl)
  have HB := Lib.hid ((Below.refl w.heap.size w).alloc (Nat.le_refl _) (.cells (nC n s b) 45))
  have c1 := HA.out.scale
  have hD := digs_le n
  obtain ⟨K, hK⟩ : ∃ K, offT n s = K := ⟨_, rfl⟩
  have hKi : max ((s : Int) - 31) (max ((digs n : Int) - 31) 0) = (K : Int) := by unfold offT at hK; omega
  have NT : nearT b n s = if offT n s ≤ s then toldT b (n / 10 ^ offT n s) (s - offT n s) else ⟨#[]⟩ := rfl
  have NE : nearE n s = if offT n s ≤ s then toldE (n / 10 ^ offT n s) (s - offT n s) else 4 := rfl
  rw [hK] at NT NE
  obtain ⟨T0, hT0⟩ : ∃ T, nearT b n s = T := ⟨_, rfl⟩
  obtain ⟨E0, hE0⟩ : ∃ T, nearE n s = T := ⟨_, rfl⟩
  rw [hT0] at NT ⊢
  rw [hE0] at NE ⊢
  clear hT0 hE0
  have LQ := Lib.hid fun k => Calls.quiet_of_same (n := k) ((length_any w.heap.size n ((w.alloc (.cells (nC n s b) 45)).drewN k) (HA.out.dig.same rfl)).mono fun _ _ h => ⟨h.1, h.2.symm⟩)
  have w1 : IntKind.i64.wrap ((s : Int) - 31) = (s : Int) - 31 := IntWalk.i64_in _ (by omega)
  have w2 : IntKind.i64.wrap ((digs n : Int) - 31) = (digs n : Int) - 31 := IntWalk.i64_in _ (by omega)
  have m3 : ∀ wx : World, (Builtin.max_ #[3, 3, 3] 3 #[.int .i64 ((s : Int) - 31), .int .i64 ((digs n : Int) - 31), .int .i64 0]).run Tryd.prog wx = .ok (.int .i64 (K : Int)) wx := fun wx => by rw [run_max3, hKi]
  have HN := Lib.hid hn
  clear hn hK
  go_enter Tryd.func83, Tryd.ntmps83
  go_wp2_with fail
  go_quiet ((go_at_call 92; exact LQ.out _))
  have H2 := Lib.hid (And.intro (show NumAt ((w.alloc (.cells (nC n s b) 45)).drewN nq) w.heap.size n s b from HA.out) (HB.out.trans ((below_drewN' (w.alloc (.cells (nC n s b) 45)) nq).mono (by simp))))
  generalize (w.alloc (.cells (nC n s b) 45)).drewN nq = W2 at H2 ⊢
  clear LQ c1 w1 w2 m3 hKi HA HB
  have c2 := H2.out.1.scale
  by_cases hle : K ≤ s
  · rw [if_pos hle] at NT NE
    have e1 : ¬ (s : Int) < (K : Int) := by omega
    have LV := Lib.hid fun wx (h : NumAt wx w.heap.size n s b) => leave_any n s K b w.heap.size wx h HN.out (by omega) (by omega) (by omega)
    have TO := Lib.hid fun wx => told_any (n / 10 ^ K) (s - K) b wx (Nat.lt_of_le_of_lt (Nat.div_le_self _ _) HN.out)
    rw [Int.toNat_natCast, show (s : Int) - (K : Int) = ((s - K : Nat) : Int) by omega] at LV
    generalize n / 10 ^ K = N at LV TO NT NE
    generalize s - K = S at LV TO NT NE
    generalize toldT b N S = T1 at TO NT
    generalize toldE N S = E1 at TO NE
    clear hle
    subst NT NE
    go_wp2_with (first | (go_at_call 105; refine (LV.out _ H2.out.1).mono ?_; rintro e w3 ⟨rfl, hb3⟩; have H3 := Lib.hid (H2.out.2.trans (hb3.mono H2.out.2.size)); clear hb3) | (go_at_call 52; refine (TO.out _).mono ?_; rintro e w4 ⟨rfl, hb4⟩; have H4 := Lib.hid (H3.out.trans (hb4.mono H3.out.size)); clear hb4))
    go_ret2
    exact ⟨rfl, H4.out⟩
  · rw [if_neg hle] at NT NE
    have e1 : (s : Int) < (K : Int) := by omega
    clear hle
    subst NT NE
    go_wp2_with fail
    go_ret2
    exact ⟨rfl, H2.out.2⟩

end Go.Proofs.YticbjhogdfpdkaaDoor
