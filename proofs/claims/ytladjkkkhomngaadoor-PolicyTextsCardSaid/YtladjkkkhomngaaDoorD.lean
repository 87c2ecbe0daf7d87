/- The contract of the reference's ValidSet. -/
import Derived.Test.YtladjkkkhomngaaDoorC
namespace Go.Proofs.YtladjkkkhomngaaDoor
open Go.RowKit Go.Sort Go.BigFrame

set_option maxRecDepth 100000 in
set_option maxHeartbeats 1000000 in
theorem rvalidSet_any (ao : Option Addr) (cap : Nat) (l : List PolD) (w : World) (hS : SortsAt w) (h : RowAt w ao l) (hl : l.length ≤ 9223372036854775807) :
    Calls Tryd.prog 14 #[.slice ao l.length cap] w fun e w' => e = .returned (.bool (okS l)) ∧ Below w.heap.size w w' := by
  have HS := Lib.hid hS
  have HR := Lib.hid h
  have HL := Lib.hid hl
  clear hS h hl
  go_enter Tryd.func14, Tryd.ntmps14
  go_wp2_with fail
  go_loopw [7] (fun i wr => ∃ k : Nat, i = .int .i64 k ∧ okTo l k ∧ k ≤ l.length ∧ Below w.heap.size w wr) (fun i _ => l.length - (intOf i).toNat)
  case atStart => exact ⟨0, rfl, okTo_zero l, Nat.zero_le _, Below.refl _ _⟩
  case round =>
    obtain ⟨k, rfl, hok, hk, hbel⟩ := hrel
    have HK := Lib.hid hok
    have HB := Lib.hid hbel
    clear hok hbel
    by_cases hlt : k < l.length
    · rcases HR.out with h0 | ⟨b, off, rfl, hb, hp⟩
      · subst h0; exact absurd hlt (by simp)
      have hpw := hp.below HB.out hb
      obtain ⟨c0, c1⟩ := hpw k hlt
      have hbw : b < wr.heap.size := Nat.lt_of_lt_of_le hb HB.out.size
      have hbn : ¬ b = wr.heap.size := by omega
      obtain ⟨kk, hkk⟩ : ∃ kk, l[k].k = kk := ⟨_, rfl⟩
      obtain ⟨vv, hvv⟩ : ∃ vv, l[k].v = vv := ⟨_, rfl⟩
      rw [hkk] at c0
      rw [hvv] at c1
      have HKK := Lib.hid hkk
      have HVV := Lib.hid hvv
      have hb1 : Below wr.heap.size wr (wr.alloc (polO kk vv)) := (Below.refl _ _).alloc (Nat.le_refl _) _
      obtain ⟨w1, hw1⟩ : ∃ w1, wr.alloc (polO kk vv) = w1 := ⟨_, rfl⟩
      have n0 := cell_regrown (hw1 ▸ polO_c0 kk vv wr)
      have n1 := cell_regrown (hw1 ▸ polO_c1 kk vv wr)
      rw [hw1] at hb1
      have HP := Lib.hid (hpw.below hb1 hbw)
      have HB1 := Lib.hid (HB.out.trans (hb1.mono HB.out.size))
      have HS1 := Lib.hid (HS.out.below HB1.out HS.out.pos)
      have Hw1 := Lib.hid hw1
      obtain ⟨r, hr⟩ : ∃ r, okP kk vv = r := ⟨_, rfl⟩
      have cV : Hid (∀ d os, Calls Tryd.prog 12 #[.agg #[.int .i64 kk, .int .i64 vv]] (grow (redrawn w1 d) os) fun e w'' => e = .returned (.bool r) ∧ ∃ p : Regrown, w'' = grow (redrawn w1 p.d) p.os) :=
        Lib.hid fun d os => Calls.regrown_of (hr ▸ rvalid_any kk vv _)
      have HRR := Lib.hid hr
      have hk1 : (k : Int) < (l.length : Int) := by omega
      have hk2 : (k : Int) + 1 ≤ 9223372036854775807 := by have := HL.out; omega
      clear hkk hvv hp hpw hb1 hw1 hr
      go_wp2_with fail
      rw [show wr.alloc (Obj.cells #[Value.int IntKind.i64 kk, Value.int IntKind.i64 vv] 24) = w1 from Hw1.out]
      cases r
      · have HF : Hid (okS l = false) := Lib.hid (okS_bad hlt (by rw [HKK.out, HVV.out]; exact HRR.out))
        refine wp_region_quiet_below (by kernel_rfl) (by kernel_rfl) ?_
        repeat (go_big_quiet_step (exact cV.out _ _))
        refine wpQuiet_nil ?_
        intro _ hw'
        obtain ⟨⟨dq, osq⟩, hw''⟩ := hw'
        subst hw''
        have HB2 := Lib.hid (HB1.out.trans ((below_regrown w1 dq osq).mono HB1.out.size))
        go_wp2_with fail
        go_ret
        exact ⟨ret_bool HF.out.symm, HB2.out⟩
      · by_cases h0 : k = 0
        · subst h0
          have HN : Hid (okTo l 1) := Lib.hid (HK.out.succ hlt (by rw [HKK.out, HVV.out]; exact HRR.out) (fun h => absurd h (by omega)))
          refine wp_region_quiet_below (by kernel_rfl) (by kernel_rfl) ?_
          repeat (go_big_quiet_step (exact cV.out _ _))
          refine wpQuiet_nil ?_
          intro _ hw'
          obtain ⟨⟨dq, osq⟩, hw''⟩ := hw'
          subst hw''
          have HB2 := Lib.hid (HB1.out.trans ((below_regrown w1 dq osq).mono HB1.out.size))
          go_wp2_with fail
          exact ⟨⟨1, rfl, HN.out, hlt, HB2.out⟩, by simp [intOf]; omega⟩
        · obtain ⟨p0, _⟩ := HP.out (k - 1) (by omega)
          have p0 := cell_regrown p0
          obtain ⟨pk, hpk⟩ : ∃ pk, (l[k - 1]).k = pk := ⟨_, rfl⟩
          rw [hpk] at p0
          have HPK := Lib.hid hpk
          have g1 : decide (0 < k) = true := by simp; omega
          have g2 : IntKind.i64.wrap ((k : Int) - 1) = (k : Int) - 1 := IntWalk.i64_in _ (by omega)
          have g3 : (0 : Int) ≤ (k : Int) - 1 := by omega
          have g4 : (k : Int) - 1 < (l.length : Int) := by omega
          clear hpk
          by_cases hd : kk ≤ pk
          · have hd2 : decide (kk ≤ pk) = true := by simpa using hd
            have HF : Hid (okS l = false) := Lib.hid (okS_down hlt (by omega) (by rw [HKK.out, HPK.out]; exact hd))
            clear hd
            refine wp_region_quiet_below (by kernel_rfl) (by kernel_rfl) ?_
            repeat (go_big_quiet_step (exact cV.out _ _))
            refine wpQuiet_nil ?_
            intro _ hw'
            obtain ⟨⟨dq, osq⟩, hw''⟩ := hw'
            subst hw''
            have HB2 := Lib.hid (HB1.out.trans ((below_regrown w1 dq osq).mono HB1.out.size))
            go_wp2_with fail
            go_ret
            exact ⟨ret_bool HF.out.symm, HB2.out⟩
          · have hd2 : decide (kk ≤ pk) = false := by simpa using hd
            have HN : Hid (okTo l (k + 1)) := Lib.hid (HK.out.succ hlt (by rw [HKK.out, HVV.out]; exact HRR.out) (fun _ => by rw [HKK.out, HPK.out]; omega))
            clear hd
            refine wp_region_quiet_below (by kernel_rfl) (by kernel_rfl) ?_
            repeat (go_big_quiet_step (exact cV.out _ _))
            refine wpQuiet_nil ?_
            intro _ hw'
            obtain ⟨⟨dq, osq⟩, hw''⟩ := hw'
            subst hw''
            have HB2 := Lib.hid (HB1.out.trans ((below_regrown w1 dq osq).mono HB1.out.size))
            go_wp2_with fail
            exact ⟨⟨k + 1, by go_num, HN.out, hlt, HB2.out⟩, by simp [intOf]; omega⟩
    · obtain rfl : k = l.length := by omega
      have HF : Hid (okS l = true) := Lib.hid (okS_true HK.out)
      go_wp2_with fail
      go_ret
      exact ⟨ret_bool HF.out.symm, HB.out⟩

end Go.Proofs.YtladjkkkhomngaaDoor
