/-
  PROVED HERE: the law CdrPads of the translated program returns true for every place, every size and every text, with no condition; of the memory that there was nothing changes.
-/
import Derived.Test.YtdklmeamhcgohaaRows
import Derived.Test.YtdklmeamhcgohaaH
import Derived.Test.YtdklmeamhcgohaaK
import Derived.WalkKit
import Derived.ProofKit
import Derived.OpenShut
import Derived.ShutString
namespace Go.Proofs.Ytdklmeamhcgohaa.cdrPads
open Go.ChangeShapes Go.WideShapes Go.ChangeAt Go.RowKit
open Go.ChangeMaps (open_string shut_string)

theorem own : ownKnob Try.prog.godebug = none := by kernel_rfl

/-- Swap twice is nothing. -/
theorem swE_zero (s : ByteArray) (n : Int) (h : swE s n = 0) : swS (swS s n) n = s ∧ swE (swS s n) n = 0 ∧ (swS s n).size = s.size := by
  unfold swE at h
  by_cases hz : szB n = true
  · by_cases hd : (s.size : Int) % n = 0
    · have hn := (szB_iff n).1 hz
      obtain ⟨m, rfl⟩ : ∃ m : Nat, n = (m : Int) := ⟨n.toNat, by omega⟩
      have e1 : swS s m = ⟨(swL s.data.toList m).toArray⟩ := by simp [swS, hz, hd]
      have e2 : (swS s m).size = s.size := by
        rw [e1]
        show (swL s.data.toList m).toArray.size = _
        simp [swL_length]
      have hdn : s.size % m = 0 := by rw [← Int.natCast_emod] at hd; exact Int.ofNat_eq_zero.mp hd
      refine ⟨?_, ?_, e2⟩
      · have e3 : swS (swS s m) m = ⟨(swL (swS s m).data.toList m).toArray⟩ := by
          rw [swS, if_pos hz, if_pos (by rw [e2]; exact hd)]
          simp
        rw [e3, e1]
        have := swL_swL s.data.toList m (by omega) hdn
        simp [this]
      · rw [swE, if_pos hz, if_pos (by rw [e2]; exact hd)]
    · rw [if_pos hz, if_neg hd] at h
      cases h
  · rw [if_neg hz] at h
    cases h

set_option maxRecDepth 100000 in
set_option maxHeartbeats 800000 in
theorem walk (a0 : Int) (a1 : Int) (a2 : ByteArray) (w : World) :
    Calls Try.prog 8 #[.int .i64 a0, .int .i64 a1, .string a2] w fun e w' => e = .returned (.bool true) ∧ Below w.heap.size w w' := by
  by_cases hl : 2000 < a2.size
  · go_enter Try.func8, Try.ntmps8
    go_wp2_with (go_at_call 10; refine (awake_any _).mono ?_; rintro e w1 ⟨rfl, hb1⟩)
    go_ret
    exact ⟨rfl, hb1⟩
  · have hl2 : a2.size ≤ 2000 := by omega
    have P1 := Lib.hid (pad34 a0 a1)
    have P2 := Lib.hid (pad35 a0 a1)
    have S1 := Lib.hid fun w => swap33 a2 a1 w hl2
    have S2 := Lib.hid fun w => swap36 a2 a1 w hl2
    have hz := swE_zero a2 a1
    obtain ⟨c, hc⟩ : ∃ c, swE a2 a1 = c := ⟨_, rfl⟩
    obtain ⟨t, ht⟩ : ∃ t, swS a2 a1 = t := ⟨_, rfl⟩
    obtain ⟨pv, hpv⟩ : ∃ pv, padV a0 a1 = pv := ⟨_, rfl⟩
    obtain ⟨pe, hpe⟩ : ∃ pe, padE a0 a1 = pe := ⟨_, rfl⟩
    rw [hpv, hpe] at P1 P2
    rw [hc, ht] at S1 S2
    rw [hc, ht] at hz
    clear hc ht hpv hpe
    by_cases h0 : c = 0
    · obtain ⟨e1, e2, e3⟩ := hz h0
      have S3 := Lib.hid fun w => swap33 t a1 w (by omega)
      rw [e1, e2] at S3
      subst h0
      clear hz e1 e2 e3
      go_enter Try.func8, Try.ntmps8
      go_wp2_with (go_at_call 34; refine (P1.out w).mono ?_; rintro e w1 ⟨rfl, hb1⟩; have B1 := Lib.hid hb1; clear hb1)
      refine (P2.out w1).mono ?_
      rintro e w2 ⟨rfl, rfl⟩
      go_wp2_with (go_at_call 33; refine (S1.out w1).mono ?_; rintro e w3 ⟨rfl, hb3⟩; have B3 := Lib.hid hb3; clear hb3)
      refine (S2.out w3).mono ?_
      rintro e w4 ⟨rfl, hb4⟩
      have B4 := Lib.hid hb4
      clear hb4 P1 P2 S1 S2
      go_wp2_with (go_at_call 33; refine (S3.out w4).mono ?_; rintro e w5 ⟨rfl, hb5⟩; have B5 := Lib.hid hb5; clear hb5)
      refine (awake_any w5).mono ?_
      rintro e w6 ⟨rfl, hb6⟩
      have B6 := Lib.hid hb6
      clear hb6
      go_wp2
      go_ret
      exact ⟨rfl, ((((B1.out.trans (B3.out.mono B1.out.size)).trans (B4.out.mono (Nat.le_trans B1.out.size B3.out.size))).trans (B5.out.mono (Nat.le_trans (Nat.le_trans B1.out.size B3.out.size) B4.out.size))).trans (B6.out.mono (Nat.le_trans (Nat.le_trans (Nat.le_trans B1.out.size B3.out.size) B4.out.size) B5.out.size)))⟩
    · clear hz
      go_enter Try.func8, Try.ntmps8
      go_wp2_with (go_at_call 34; refine (P1.out w).mono ?_; rintro e w1 ⟨rfl, hb1⟩; have B1 := Lib.hid hb1; clear hb1)
      refine (P2.out w1).mono ?_
      rintro e w2 ⟨rfl, rfl⟩
      go_wp2_with (go_at_call 33; refine (S1.out w1).mono ?_; rintro e w3 ⟨rfl, hb3⟩; have B3 := Lib.hid hb3; clear hb3)
      refine (S2.out w3).mono ?_
      rintro e w4 ⟨rfl, hb4⟩
      have B4 := Lib.hid hb4
      clear hb4 P1 P2 S1 S2
      go_wp2_with (go_at_call 10; refine (awake_any w4).mono ?_; rintro e w6 ⟨rfl, hb6⟩; have B6 := Lib.hid hb6; clear hb6)
      go_ret
      exact ⟨rfl, (((B1.out.trans (B3.out.mono B1.out.size)).trans (B4.out.mono (Nat.le_trans B1.out.size B3.out.size))).trans (B6.out.mono (Nat.le_trans (Nat.le_trans B1.out.size B3.out.size) B4.out.size)))⟩
/-! ### THE ROW's STEP: WRITTEN OUT: LEAVE IT -/
set_option maxRecDepth 100000 in
theorem lifted (os : Os) (started : os.Started) (H : Type) (enc : TypeId × Value → H) :
    ReturnsInHanded {} Try.checked os 8 .any (Rows.cdrPadsSpec.pre6 enc Try.prog Try.f8 Rows.cdrPadsRow.domain false) (Rows.cdrPadsSpec.post enc Try.prog Try.f8 false true false false) := by
  refine returnsInHanded_of_change (C := Try.checked) own started (by kernel_rfl) Try.func8
    (ChangeSpec.witness6 (enc := enc) (C := Try.checked) false ⟨#[], #[.int .i64 0, .int .i64 0, .string ByteArray.empty], []⟩ 8 (by kernel_rfl) (by kernel_rfl) (by kernel_rfl) (by kernel_rfl)) ?_
  intro W base args ds gs before hval0 hW hcnd _
  have hval : ∀ (j : Nat) t v, Try.f8.params[j]? = some t → args[j]? = some v → Value.okWide Try.prog W .any base t v := hval0
  have hW' := hW
  obtain ⟨p, q, hA0, hV, rfl, hfz, hnd⟩ := hW
  have hA : DataW.TrodAll enc Try.prog W 0 (fun _ => true) true Try.f8.params.toList args.toList ds p := hA0
  rw [Try.params8] at hA hval
  obtain ⟨v0, vs0, d0, ds0, p0, q0, hargs, rfl, rfl, h0, r0⟩ := trodAll_cons hA
  obtain ⟨v1, vs1, d1, ds1, p1, q1, rfl, rfl, rfl, h1, r1⟩ := trodAll_cons r0
  obtain ⟨v2, vs2, d2, ds2, p2, q2, rfl, rfl, rfl, h2, r2⟩ := trodAll_cons r1
  obtain ⟨rfl, rfl, rfl⟩ := trodAll_nil r2
  obtain rfl : args = #[v0, v1, v2] := by cases args; simp_all
  obtain ⟨rfl, rfl⟩ := trodVars_none hV
  obtain ⟨a0, rfl, rfl, rfl, w0⟩ := open_int Try.underlying3 (hval 0 3 v0 rfl rfl) h0
  obtain ⟨a1, rfl, rfl, rfl, w1⟩ := open_int Try.underlying3 (hval 1 3 v1 rfl rfl) h1
  obtain ⟨a2, rfl, rfl, rfl, w2⟩ := open_string Try.underlying9 (hval 2 9 v2 rfl rfl) h2
  clear hA0 hval0
  simp only [List.append_nil] at hW'
  refine (walk a0 a1 a2 W).mono fun e W' ⟨he, hg⟩ => ?_
  subst he
  exact ⟨_, rfl, _, _, _, [], [], [], hW', trodAll_cons_mk (shut_bool Try.underlying4 _) trodAll_mk0, trodAll_cons_mk (shut_int Try.underlying3 w0) (trodAll_cons_mk (shut_int Try.underlying3 w1) (trodAll_cons_mk (shut_string Try.underlying9 w2) trodAll_mk0)), rfl, hg.frame _, fun h => by cases h⟩

theorem over : Rows.cdrPadsRow.holds Try.pinned (OpenSpec.ofChange Rows.cdrPadsSpec) :=
  OpenClaim.holds_of_wide 8 Try.f8 rfl rfl rfl rfl rfl rfl rfl ⟨rfl, rfl, rfl, rfl, rfl⟩ rfl rfl rfl rfl rfl (by kernel_rfl) Try.func8 (by kernel_rfl)
    (of_decide_eq_true (by kernel_rfl)) (by unfold Func.isWrapper; first | (rw [if_pos (by decide +kernel)]; kernel_rfl) | (rw [if_neg (by decide +kernel)]; exact ⟨rfl, rfl⟩))
    (fun os started H enc _ => lifted os started H enc)

/-- ████ THE STATEMENT ████ -/
theorem proved : Rows.CdrPadsSaid :=
  over
#print axioms proved
end Go.Proofs.Ytdklmeamhcgohaa.cdrPads
