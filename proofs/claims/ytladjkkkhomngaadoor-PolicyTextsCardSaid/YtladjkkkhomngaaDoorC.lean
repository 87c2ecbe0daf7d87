/- A row of policies in memory; the contracts of both ValidSets, and of what looks a kind up in a row. -/
import Derived.Test.YtladjkkkhomngaaDoorB
import Derived.LoopTactic
import Derived.Lib.QuietBelow
namespace Go.Proofs.YtladjkkkhomngaaDoor
open Go.RowKit Go.Sort Go.BigFrame

/-- A policy. -/
structure PolD where
  k : Int
  v : Int
  deriving Inhabited

/-- Policies lie at a place. -/
def PolsAt (W : World) (b off : Nat) (l : List PolD) : Prop := ∀ i (h : i < l.length), W.cell? ⟨b, off + i * 2, none⟩ = some (.int .i64 l[i].k) ∧ W.cell? ⟨b, off + i * 2 + 1, none⟩ = some (.int .i64 l[i].v)

/-- A slice's address under which policies lie. -/
def RowAt (W : World) (ao : Option Addr) (l : List PolD) : Prop := l = [] ∨ ∃ b off, ao = some ⟨b, off, none⟩ ∧ b < W.heap.size ∧ PolsAt W b off l

theorem PolsAt.below {W W' : World} {B b off : Nat} {l : List PolD} (h : PolsAt W b off l) (hb : Below B W W') (hB : b < B) : PolsAt W' b off l := fun i hi => by
  obtain ⟨h0, h1⟩ := h i hi
  exact ⟨(hb.cell hB).trans h0, (hb.cell hB).trans h1⟩

theorem RowAt.below {W W' : World} {ao : Option Addr} {l : List PolD} (h : RowAt W ao l) (hb : Below W.heap.size W W') : RowAt W' ao l := by
  rcases h with h | ⟨b, off, h0, h1, h2⟩
  · exact .inl h
  · exact .inr ⟨b, off, h0, Nat.lt_of_lt_of_le h1 hb.size, h2.below hb h1⟩

/-- The first n policies are valid, and their kinds go up. -/
def okTo (l : List PolD) (n : Nat) : Prop := ∀ i, i < n → ∀ h : i < l.length, okP l[i].k l[i].v = true ∧ (0 < i → (l[i - 1]).k < l[i].k)

theorem okTo_zero (l : List PolD) : okTo l 0 := fun i h => absurd h (Nat.not_lt_zero i)
theorem okTo.succ {l : List PolD} {n : Nat} (h : okTo l n) (hn : n < l.length) (h1 : okP l[n].k l[n].v = true) (h2 : 0 < n → (l[n - 1]).k < l[n].k) : okTo l (n + 1) := fun i hi hl => by
  by_cases he : i = n
  · subst he; exact ⟨h1, h2⟩
  · exact h i (by omega) hl

/-- Are policies a set? -/
noncomputable instance okDec (l : List PolD) : Decidable (okTo l l.length) := Classical.propDecidable _
noncomputable def okS (l : List PolD) : Bool := decide (okTo l l.length)
theorem okS_true {l : List PolD} (h : okTo l l.length) : okS l = true := decide_eq_true h
theorem okS_of {l : List PolD} (h : okS l = true) : okTo l l.length := of_decide_eq_true h
theorem okS_bad {l : List PolD} {n : Nat} (hn : n < l.length) (h : okP l[n].k l[n].v = false) : okS l = false := by
  refine decide_eq_false fun h1 => ?_
  have := (h1 n hn hn).1
  rw [h] at this
  cases this
theorem okS_down {l : List PolD} {n : Nat} (hn : n < l.length) (h0 : 0 < n) (h : l[n].k ≤ (l[n - 1]).k) : okS l = false := by
  refine decide_eq_false fun h1 => ?_
  have := (h1 n hn hn).2 h0
  omega

theorem SortsAt.regrown {W : World} (h : SortsAt W) (d : Nat) (os : Array Obj) : SortsAt (grow (redrawn W d) os) := h.below (below_regrown W d os) h.pos

set_option maxRecDepth 100000 in
set_option maxHeartbeats 1000000 in
theorem validSet_any (ao : Option Addr) (cap : Nat) (l : List PolD) (w : World) (hS : SortsAt w) (h : RowAt w ao l) (hl : l.length ≤ 9223372036854775807) :
    Calls Tryd.prog 13 #[.slice ao l.length cap] w fun e w' => e = .returned (.bool (okS l)) ∧ Below w.heap.size w w' := by
  have HS := Lib.hid hS
  have HR := Lib.hid h
  have HL := Lib.hid hl
  clear hS h hl
  go_enter Tryd.func13, Tryd.ntmps13
  go_wp2_with fail
  go_loopw [7] (fun i wr => ∃ k : Nat, i = .int .i64 k ∧ okTo l k ∧ k ≤ l.length ∧ Below w.heap.size w wr) (fun i _ => l.length - (intOf i).toNat)
  case atStart => exact ⟨0, rfl, okTo_zero l, Nat.zero_le _, Below.refl _ _⟩
  case round =>
    obtain ⟨k, rfl, hok, hk, hbel⟩ := hrel
    have HK := Lib.hid hok
    have HB := Lib.hid hbel
    clear hok hbel
    by_cases hlt : k < l.length
    · rcases HR.out with h0 | ⟨b, off, rfl, hb, hp⟩
      · subst h0; exact absurd hlt (by simp)
      have hpw := hp.below HB.out hb
      obtain ⟨c0, c1⟩ := hpw k hlt
      have hbw : b < wr.heap.size := Nat.lt_of_lt_of_le hb HB.out.size
      have hbn : ¬ b = wr.heap.size := by omega
      obtain ⟨kk, hkk⟩ : ∃ kk, l[k].k = kk := ⟨_, rfl⟩
      obtain ⟨vv, hvv⟩ : ∃ vv, l[k].v = vv := ⟨_, rfl⟩
      rw [hkk] at c0
      rw [hvv] at c1
      have HKK := Lib.hid hkk
      have HVV := Lib.hid hvv
      have hb1 : Below wr.heap.size wr (wr.alloc (polO kk vv)) := (Below.refl _ _).alloc (Nat.le_refl _) _
      obtain ⟨w1, hw1⟩ : ∃ w1, wr.alloc (polO kk vv) = w1 := ⟨_, rfl⟩
      have n0 := cell_regrown (hw1 ▸ polO_c0 kk vv wr)
      have n1 := cell_regrown (hw1 ▸ polO_c1 kk vv wr)
      rw [hw1] at hb1
      have HP := Lib.hid (hpw.below hb1 hbw)
      have HB1 := Lib.hid (HB.out.trans (hb1.mono HB.out.size))
      have HS1 := Lib.hid (HS.out.below HB1.out HS.out.pos)
      have Hw1 := Lib.hid hw1
      obtain ⟨r, hr⟩ : ∃ r, okP kk vv = r := ⟨_, rfl⟩
      have cV : Hid (∀ d os, Calls Tryd.prog 11 #[.agg #[.int .i64 kk, .int .i64 vv]] (grow (redrawn w1 d) os) fun e w'' => e = .returned (.bool r) ∧ ∃ p : Regrown, w'' = grow (redrawn w1 p.d) p.os) :=
        Lib.hid fun d os => Calls.regrown_of (hr ▸ valid_any kk vv _ (HS1.out.regrown d os))
      have HRR := Lib.hid hr
      have hk1 : (k : Int) < (l.length : Int) := by omega
      have hk2 : (k : Int) + 1 ≤ 9223372036854775807 := by have := HL.out; omega
      clear hkk hvv hp hpw hb1 hw1 hr
      go_wp2_with fail
      rw [show wr.alloc (Obj.cells #[Value.int IntKind.i64 kk, Value.int IntKind.i64 vv] 24) = w1 from Hw1.out]
      cases r
      · have HF : Hid (okS l = false) := Lib.hid (okS_bad hlt (by rw [HKK.out, HVV.out]; exact HRR.out))
        refine wp_region_quiet_below (by kernel_rfl) (by kernel_rfl) ?_
        repeat (go_big_quiet_step (exact cV.out _ _))
        refine wpQuiet_nil ?_
        intro _ hw'
        obtain ⟨⟨dq, osq⟩, hw''⟩ := hw'
        subst hw''
        have HB2 := Lib.hid (HB1.out.trans ((below_regrown w1 dq osq).mono HB1.out.size))
        go_wp2_with fail
        go_ret
        exact ⟨ret_bool HF.out.symm, HB2.out⟩
      · by_cases h0 : k = 0
        · subst h0
          have HN : Hid (okTo l 1) := Lib.hid (HK.out.succ hlt (by rw [HKK.out, HVV.out]; exact HRR.out) (fun h => absurd h (by omega)))
          refine wp_region_quiet_below (by kernel_rfl) (by kernel_rfl) ?_
          repeat (go_big_quiet_step (exact cV.out _ _))
          refine wpQuiet_nil ?_
          intro _ hw'
          obtain ⟨⟨dq, osq⟩, hw''⟩ := hw'
          subst hw''
          have HB2 := Lib.hid (HB1.out.trans ((below_regrown w1 dq osq).mono HB1.out.size))
          go_wp2_with fail
          exact ⟨⟨1, rfl, HN.out, hlt, HB2.out⟩, by simp [intOf]; omega⟩
        · obtain ⟨p0, _⟩ := HP.out (k - 1) (by omega)
          have p0 := cell_regrown p0
          obtain ⟨pk, hpk⟩ : ∃ pk, (l[k - 1]).k = pk := ⟨_, rfl⟩
          rw [hpk] at p0
          have HPK := Lib.hid hpk
          have g1 : decide (0 < k) = true := by simp; omega
          have g2 : IntKind.i64.wrap ((k : Int) - 1) = (k : Int) - 1 := IntWalk.i64_in _ (by omega)
          have g3 : (0 : Int) ≤ (k : Int) - 1 := by omega
          have g4 : (k : Int) - 1 < (l.length : Int) := by omega
          clear hpk
          by_cases hd : kk ≤ pk
          · have hd2 : decide (kk ≤ pk) = true := by simpa using hd
            have HF : Hid (okS l = false) := Lib.hid (okS_down hlt (by omega) (by rw [HKK.out, HPK.out]; exact hd))
            clear hd
            refine wp_region_quiet_below (by kernel_rfl) (by kernel_rfl) ?_
            repeat (go_big_quiet_step (exact cV.out _ _))
            refine wpQuiet_nil ?_
            intro _ hw'
            obtain ⟨⟨dq, osq⟩, hw''⟩ := hw'
            subst hw''
            have HB2 := Lib.hid (HB1.out.trans ((below_regrown w1 dq osq).mono HB1.out.size))
            go_wp2_with fail
            go_ret
            exact ⟨ret_bool HF.out.symm, HB2.out⟩
          · have hd2 : decide (kk ≤ pk) = false := by simpa using hd
            have HN : Hid (okTo l (k + 1)) := Lib.hid (HK.out.succ hlt (by rw [HKK.out, HVV.out]; exact HRR.out) (fun _ => by rw [HKK.out, HPK.out]; omega))
            clear hd
            refine wp_region_quiet_below (by kernel_rfl) (by kernel_rfl) ?_
            repeat (go_big_quiet_step (exact cV.out _ _))
            refine wpQuiet_nil ?_
            intro _ hw'
            obtain ⟨⟨dq, osq⟩, hw''⟩ := hw'
            subst hw''
            have HB2 := Lib.hid (HB1.out.trans ((below_regrown w1 dq osq).mono HB1.out.size))
            go_wp2_with fail
            exact ⟨⟨k + 1, by go_num, HN.out, hlt, HB2.out⟩, by simp [intOf]; omega⟩
    · obtain rfl : k = l.length := by omega
      have HF : Hid (okS l = true) := Lib.hid (okS_true HK.out)
      go_wp2_with fail
      go_ret
      exact ⟨ret_bool HF.out.symm, HB.out⟩

end Go.Proofs.YtladjkkkhomngaaDoor
