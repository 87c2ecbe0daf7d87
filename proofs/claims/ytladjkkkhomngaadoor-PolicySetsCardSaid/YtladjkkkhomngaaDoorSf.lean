/- The contract of the reference's Of. -/
import Derived.Test.YtladjkkkhomngaaDoorSa
import Derived.Test.YtladjkkkhomngaaDoorTf
namespace Go.Proofs.YtladjkkkhomngaaDoor
set_option maxRecDepth 8000
open Go.RowKit Go.Sort Go.BigFrame

theorem of_bad {l : List PolD} (h : ¬ (l.length ≤ 100 ∧ allV l = true)) : ofL l = [] ∧ ofE l = 1 := by
  unfold ofL ofE
  exact ⟨if_neg fun g => h ⟨g.1, g.2.1⟩, if_neg h⟩
theorem of_dup {l : List PolD} (h : l.length ≤ 100 ∧ allV l = true) (hg : (gthTo l 13).length ≠ l.length) : ofL l = [] ∧ ofE l = 6 := by
  unfold ofL ofE
  exact ⟨if_neg fun g => hg g.2.2, by rw [if_pos h, if_neg hg]⟩
theorem of_good {l : List PolD} (h : l.length ≤ 100 ∧ allV l = true) (hg : (gthTo l 13).length = l.length) : ofL l = gthTo l 13 ∧ ofE l = 0 := by
  unfold ofL ofE
  exact ⟨if_pos ⟨h.1, h.2, hg⟩, by rw [if_pos h, if_pos hg]⟩

set_option maxRecDepth 100000 in
set_option maxHeartbeats 2000000 in
theorem rof_any (d : SlD) (w : World) (h : d.Ok w) (hl : d.l.length ≤ 200) :
    Calls Tryd.prog 8 #[.slice d.a d.l.length d.c] w (RowPost w (ofL d.l) (ofE d.l)) := by
  obtain ⟨ao, l, cap⟩ := d
  simp only at hl
  have HR := Lib.hid h
  have HL := Lib.hid hl
  clear h hl
  simp only
  go_enter Tryd.func8, Tryd.ntmps8
  go_wp2_with fail
  go_loopw [9] (fun i wr => ∃ k : Nat, i = .int .i64 k ∧ valTo l k ∧ k ≤ l.length ∧ Below w.heap.size w wr) (fun i _ => l.length - (intOf i).toNat)
  case atStart => exact ⟨0, rfl, fun i h => absurd h (Nat.not_lt_zero i), Nat.zero_le _, Below.refl _ _⟩
  case round =>
    obtain ⟨k, rfl, hok, hk, hbel⟩ := hrel
    have HK := Lib.hid hok
    have HB := Lib.hid hbel
    clear hok hbel
    by_cases hlt : k < l.length
    · rcases HR.out.row with h0 | ⟨b, off, h1, hb, hp⟩
      · simp only at h0; subst h0; exact absurd hlt (by simp)
      simp only at h1
      subst h1
      have hpw := hp.below HB.out hb
      obtain ⟨c0, c1⟩ := hpw k hlt
      obtain ⟨kk, hkk⟩ : ∃ kk, l[k].k = kk := ⟨_, rfl⟩
      obtain ⟨vv, hvv⟩ : ∃ vv, l[k].v = vv := ⟨_, rfl⟩
      simp only at c0 c1
      rw [hkk] at c0
      rw [hvv] at c1
      have HKK := Lib.hid hkk
      have HVV := Lib.hid hvv
      have hb1 : Below wr.heap.size wr (wr.alloc (polO kk vv)) := (Below.refl _ _).alloc (Nat.le_refl _) _
      have n0 := polO_c0 kk vv wr
      have n1 := polO_c1 kk vv wr
      have HB1 := Lib.hid (HB.out.trans (hb1.mono HB.out.size))
      have cV := Lib.hid fun wx => rvalid_any kk vv wx
      obtain ⟨r, hr⟩ : ∃ r, okP kk vv = r := ⟨_, rfl⟩
      rw [hr] at cV
      have HRR := Lib.hid hr
      have hk1 : (k : Int) < (l.length : Int) := by omega
      have hk2 : (k : Int) + 1 ≤ 9223372036854775807 := by have := HL.out; omega
      clear hkk hvv hp hpw hb1 hr
      cases r
      · have HF : Hid (ofL l = [] ∧ ofE l = 1) := Lib.hid (of_bad fun g => by have := allV_at g.2 _ (List.getElem_mem hlt); rw [HKK.out, HVV.out, HRR.out] at this; cases this)
        go_wp2_with (go_at_call 12; refine (cV.out _).mono ?_; rintro e w2 ⟨rfl, hb2⟩; have B2 := Lib.hid (HB1.out.trans (hb2.mono HB1.out.size)); clear hb2)
        go_ret2
        exact RowPost.nil HF.out.1 (by first | (rw [HF.out.2]; done) | (rw [HF.out.2]; rfl)) B2.out
      · go_wp2_with (go_at_call 12; refine (cV.out _).mono ?_; rintro e w2 ⟨rfl, hb2⟩; have B2 := Lib.hid (HB1.out.trans (hb2.mono HB1.out.size)); clear hb2)
        refine ⟨⟨k + 1, by go_num, fun i hi h => ?_, hlt, B2.out⟩, by simp [intOf]; omega⟩
        by_cases e : i = k
        · subst e; rw [HKK.out, HVV.out]; exact HRR.out
        · exact HK.out i (by omega) h
    · obtain rfl : k = l.length := by omega
      have HA : Hid (allV l = true) := Lib.hid (allV_all HK.out)
      by_cases h100 : l.length ≤ 100
      · have n100 : ¬ (100 : Int) < (l.length : Int) := by omega
        have d100 : decide ((100 : Int) < (l.length : Int)) = false := by simp; omega
        have HC := Lib.hid (show l.length ≤ 100 ∧ allV l = true from ⟨h100, HA.out⟩)
        have GA := Lib.hid (gathered_any ao cap l wr (HR.out.row.below HB.out) (by omega))
        clear h100
        go_wp2_with fail
        refine GA.out.mono ?_
        rintro e w2 ⟨sv, rfl, hi2⟩
        have B2 := Lib.hid (HB.out.trans (hi2.below.mono HB.out.size))
        obtain ⟨⟨da, dl, dc⟩, hdl, rfl, hok⟩ := sl_of_own hi2.own
        simp only at hdl
        have HO := Lib.hid hok
        have HD := Lib.hid hdl
        clear hi2 hok hdl
        unfold SlD.v
        simp only
        by_cases he : dl.length = l.length
        · have HF : Hid (ofL l = dl ∧ ofE l = 0) := Lib.hid (by
            have := of_good HC.out (by rw [← HD.out]; exact he)
            exact ⟨this.1.trans HD.out.symm, this.2⟩)
          have e1 : ((dl.length : Int) != (l.length : Int)) = false := by simp; omega
          have e2 : ((dl.length : Int) == (l.length : Int)) = true := by simp; omega
          clear he
          go_wp2_with fail
          go_ret2
          exact ⟨⟨da, dl, dc⟩, HF.out.1.symm, by rw [HF.out.2]; rfl, HO.out, B2.out⟩
        · have HF : Hid (ofL l = [] ∧ ofE l = 6) := Lib.hid (of_dup HC.out (by rw [← HD.out]; exact he))
          have e1 : ((dl.length : Int) != (l.length : Int)) = true := by simp; omega
          have e2 : ((dl.length : Int) == (l.length : Int)) = false := by simp; omega
          clear he
          go_wp2_with fail
          go_ret2
          exact RowPost.nil HF.out.1 (by first | (rw [HF.out.2]; done) | (rw [HF.out.2]; rfl)) B2.out
      · have n100 : (100 : Int) < (l.length : Int) := by omega
        have d100 : decide ((100 : Int) < (l.length : Int)) = true := by simp; omega
        have HF := Lib.hid (of_bad (l := l) (fun g => h100 g.1))
        clear h100
        go_wp2_with fail
        go_ret2
        exact RowPost.nil HF.out.1 (by first | (rw [HF.out.2]; done) | (rw [HF.out.2]; rfl)) HB.out

end Go.Proofs.YtladjkkkhomngaaDoor
