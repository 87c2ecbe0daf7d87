/- The law FragWeaves returns true, whatever the pieces and the turns. -/
import Derived.Test.YtclhnpbjmefpeaaO
namespace Go.Proofs.Ytclhnpbjmefpeaa
open Go.RowKit Go.BigFrame

set_option maxRecDepth 100000 in
set_option maxHeartbeats 8000000 in
theorem weaves_any (ao to : Option Addr) (cap tc : Nat) (ds : List SlD) (ts : List Int) (w : World) (h : LlAt w ao ds cap) (ht : IntRow w to ts) (hl : ds.length ≤ 9223372036854775807) (hll : ∀ d ∈ ds, d.l.length ≤ 9223372036854775807) (htb : ∀ t ∈ ts, t ≤ 9223372036854775807) :
    Calls Try.prog 5 #[.slice ao ds.length cap, .slice to ts.length tc] w fun e w' => e = .returned (.bool true) ∧ Below w.heap.size w w' := by
  have HR := Lib.hid h
  have HTR := Lib.hid ht
  have HDL := Lib.hid hl
  have HLL := Lib.hid hll
  have HTB := Lib.hid htb
  have AW := Lib.hid fun wx => awake_any wx
  clear h ht hl hll htb
  go_enter Try.func5, Try.ntmps5
  go_wp2_with fail
  go_loopw [13] (fun i wr => ∃ k : Nat, i = .int .i64 k ∧ k ≤ ds.length ∧ (∀ i, i < k → ∀ h : i < ds.length, ds[i].l.length ≤ 200) ∧ Below w.heap.size w wr) (fun i _ => ds.length - (intOf i).toNat)
  case atStart => exact ⟨0, rfl, Nat.zero_le _, (fun i h => absurd h (Nat.not_lt_zero i)), Below.refl _ _⟩
  case round =>
    obtain ⟨k, rfl, hk, hall, hbel⟩ := hrel
    have HB := Lib.hid hbel
    have HA := Lib.hid hall
    clear hbel hall
    by_cases hlt : k < ds.length
    · have hL := HR.out.below HB.out
      rcases hL.row with h0 | ⟨b, off, rfl, hb, hp⟩
      · subst h0; exact absurd hlt (by simp)
      have c0 := hp k hlt
      have hdm : ds[k] ∈ ds := List.getElem_mem hlt
      have hok := hL.ok _ hdm
      have hdl := HLL.out _ hdm
      have HSET : Hid (ds[k].l.length ≤ 200 → ∀ i, i < k + 1 → ∀ h : i < ds.length, ds[i].l.length ≤ 200) := Lib.hid fun h9 i hi hil => by
        by_cases e : i = k
        · subst e; exact h9
        · exact HA.out i (by omega) hil
      obtain ⟨d, hd⟩ : ∃ d, ds[k] = d := ⟨_, rfl⟩
      rw [hd] at c0 hok hdl HSET
      obtain ⟨da, dl, dc⟩ := d
      unfold SlD.v at c0
      simp only at c0 hdl HSET
      have LI := Lib.hid (light_any da dc dl wr (hok.row (Below.refl _ _) (Nat.le_refl _)) hdl)
      have hk1 : (k : Int) < (ds.length : Int) := by omega
      have hk2 : (k : Int) + 1 ≤ 9223372036854775807 := by have := HDL.out; omega
      have hk0 : (0 : Int) ≤ (k : Int) := by omega
      have HLT := Lib.hid hlt
      clear hL hp hdm hok hdl hd hlt
      go_wp2_with fail
      refine LI.out.mono ?_
      rintro e w1 ⟨r, rfl, hr, hb1⟩
      have B1 := Lib.hid (HB.out.trans (hb1.mono HB.out.size))
      have HRR := Lib.hid hr
      clear hb1 hr
      cases r
      · go_wp2_with (go_at_call 6; refine (AW.out _).mono ?_; rintro e w2 ⟨rfl, hb2⟩; have B2 := Lib.hid (B1.out.trans (hb2.mono B1.out.size)); clear hb2)
        go_ret
        exact ⟨rfl, B2.out⟩
      · go_wp2_with fail
        exact ⟨⟨k + 1, by go_num, HLT.out, HSET.out (HRR.out (by first | rfl | trivial)), B1.out⟩, by simp [intOf]; have := HLT.out; omega⟩
    · obtain rfl : k = ds.length := by omega
      have hfew : ∀ d ∈ ds, d.l.length ≤ 200 := fun d hd => by
        obtain ⟨i, hi, rfl⟩ := List.getElem_of_mem hd
        exact HA.out i hi hi
      have HFEW := Lib.hid hfew
      clear hfew hlt
      by_cases h1 : 10 < ds.length
      · have e1 : (10 : Int) < (ds.length : Int) := by omega
        have e2 : decide ((10 : Int) < (ds.length : Int)) = true := decide_eq_true e1
        by_cases h2 : ds.length ≤ 100
        · have e3 : (ds.length : Int) ≤ 100 := by omega
          have e4 : decide ((ds.length : Int) ≤ 100) = true := decide_eq_true e3
          clear h1 h2 hk
          go_wp2_with (go_at_call 6; refine (AW.out _).mono ?_; rintro e w2 ⟨rfl, hb2⟩; have B2 := Lib.hid (HB.out.trans (hb2.mono HB.out.size)); clear hb2)
          go_ret
          exact ⟨rfl, B2.out⟩
        · have e3 : ¬ (ds.length : Int) ≤ 100 := by omega
          have e4 : decide ((ds.length : Int) ≤ 100) = false := decide_eq_false e3
          by_cases h3 : 110 < ds.length
          · have e5 : (110 : Int) < (ds.length : Int) := by omega
            have e6 : decide ((110 : Int) < (ds.length : Int)) = true := decide_eq_true e5
            clear h1 h2 h3 hk
            go_wp2_with (go_at_call 6; refine (AW.out _).mono ?_; rintro e w2 ⟨rfl, hb2⟩; have B2 := Lib.hid (HB.out.trans (hb2.mono HB.out.size)); clear hb2)
            go_ret
            exact ⟨rfl, B2.out⟩
          · have e5 : ¬ (110 : Int) < (ds.length : Int) := by omega
            have e6 : decide ((110 : Int) < (ds.length : Int)) = false := decide_eq_false e5
            by_cases h4 : 300 < ts.length
            · have e7 : (300 : Int) < (ts.length : Int) := by omega
              have e8 : decide ((300 : Int) < (ts.length : Int)) = true := decide_eq_true e7
              clear h1 h2 h3 h4 hk
              go_wp2_with (go_at_call 6; refine (AW.out _).mono ?_; rintro e w2 ⟨rfl, hb2⟩; have B2 := Lib.hid (HB.out.trans (hb2.mono HB.out.size)); clear hb2)
              go_ret
              exact ⟨rfl, B2.out⟩
            · have e7 : ¬ (300 : Int) < (ts.length : Int) := by omega
              have e8 : decide ((300 : Int) < (ts.length : Int)) = false := decide_eq_false e7
              have WA := Lib.hid fun wx (hx : Below w.heap.size w wx) => weave_any ao to cap tc ds ts wx (HR.out.below hx) (HTR.out.below hx) (by omega) (fun d hd => by have := HFEW.out d hd; omega) (by omega) HTB.out
              have WB := Lib.hid fun wx (hx : Below w.heap.size w wx) => rweave_any ao to cap tc ds ts wx (HR.out.below hx) (HTR.out.below hx) (by omega) (fun d hd => by have := HFEW.out d hd; omega) (by omega)
              have HWL : Hid ((wvL (lls ds) ts).length ≤ 1000000) := Lib.hid (by
                have g1 := wvL_len (lls ds) ts
                have g2 := total_bound (S := lls ds) (n := 200) (fun x hx => by obtain ⟨d, hd, rfl⟩ := List.mem_map.1 hx; exact HFEW.out d hd)
                rw [show (lls ds).length = ds.length by simp [lls]] at g2
                omega)
              clear h1 h2 h3 h4 hk
              go_wp2_with (go_at_call 19; refine (WA.out _ HB.out).mono ?_; rintro e w2 ⟨⟨a1, l1, c1⟩, hl1, rfl, hok1, hb1⟩; simp only at hl1; subst hl1; have K1 := Lib.hid hok1; have B1 := Lib.hid (HB.out.trans (hb1.mono HB.out.size)); clear hb1 hok1)
              unfold SlD.v
              go_wp2_with (go_at_call 20; refine (WB.out _ B1.out).mono ?_; rintro e w3 ⟨⟨a2, l2, c2⟩, hl2, rfl, hok2, hb2⟩; simp only at hl2; subst hl2; have K2 := Lib.hid hok2; have K1b := Lib.hid (K1.out.below hb2); have B2 := Lib.hid (B1.out.trans (hb2.mono B1.out.size)); clear hb2 hok2)
              unfold SlD.v
              have SE := Lib.hid (same_eq a1 a2 c1 c2 (wvL (lls ds) ts) w3 K1b.out.row K2.out.row HWL.out)
              obtain ⟨we, hwe⟩ : ∃ we, wvE (lls ds) ts = we := ⟨_, rfl⟩
              rw [hwe]
              have q1 : (we == we) = true := by simp
              clear hwe
              go_wp2_with (first | (go_at_call 11; refine SE.out.mono ?_; rintro e w4 ⟨rfl, hb4⟩; have B4 := Lib.hid (B2.out.trans (hb4.mono B2.out.size)); clear hb4) | (go_at_call 6; refine (AW.out _).mono ?_; rintro e w5 ⟨rfl, hb5⟩; have B5 := Lib.hid (B4.out.trans (hb5.mono B4.out.size)); clear hb5))
              go_ret
              exact ⟨rfl, B5.out⟩
      · have e1 : ¬ (10 : Int) < (ds.length : Int) := by omega
        have e2 : decide ((10 : Int) < (ds.length : Int)) = false := decide_eq_false e1
        have e5 : ¬ (110 : Int) < (ds.length : Int) := by omega
        have e6 : decide ((110 : Int) < (ds.length : Int)) = false := decide_eq_false e5
        by_cases h4 : 300 < ts.length
        · have e7 : (300 : Int) < (ts.length : Int) := by omega
          have e8 : decide ((300 : Int) < (ts.length : Int)) = true := decide_eq_true e7
          clear h1 h4 hk
          go_wp2_with (go_at_call 6; refine (AW.out _).mono ?_; rintro e w2 ⟨rfl, hb2⟩; have B2 := Lib.hid (HB.out.trans (hb2.mono HB.out.size)); clear hb2)
          go_ret
          exact ⟨rfl, B2.out⟩
        · have e7 : ¬ (300 : Int) < (ts.length : Int) := by omega
          have e8 : decide ((300 : Int) < (ts.length : Int)) = false := decide_eq_false e7
          have WA := Lib.hid fun wx (hx : Below w.heap.size w wx) => weave_any ao to cap tc ds ts wx (HR.out.below hx) (HTR.out.below hx) (by omega) (fun d hd => by have := HFEW.out d hd; omega) (by omega) HTB.out
          have WB := Lib.hid fun wx (hx : Below w.heap.size w wx) => rweave_any ao to cap tc ds ts wx (HR.out.below hx) (HTR.out.below hx) (by omega) (fun d hd => by have := HFEW.out d hd; omega) (by omega)
          have HWL : Hid ((wvL (lls ds) ts).length ≤ 1000000) := Lib.hid (by
            have g1 := wvL_len (lls ds) ts
            have g2 := total_bound (S := lls ds) (n := 200) (fun x hx => by obtain ⟨d, hd, rfl⟩ := List.mem_map.1 hx; exact HFEW.out d hd)
            rw [show (lls ds).length = ds.length by simp [lls]] at g2
            omega)
          clear h1 h4 hk
          go_wp2_with (go_at_call 19; refine (WA.out _ HB.out).mono ?_; rintro e w2 ⟨⟨a1, l1, c1⟩, hl1, rfl, hok1, hb1⟩; simp only at hl1; subst hl1; have K1 := Lib.hid hok1; have B1 := Lib.hid (HB.out.trans (hb1.mono HB.out.size)); clear hb1 hok1)
          unfold SlD.v
          go_wp2_with (go_at_call 20; refine (WB.out _ B1.out).mono ?_; rintro e w3 ⟨⟨a2, l2, c2⟩, hl2, rfl, hok2, hb2⟩; simp only at hl2; subst hl2; have K2 := Lib.hid hok2; have K1b := Lib.hid (K1.out.below hb2); have B2 := Lib.hid (B1.out.trans (hb2.mono B1.out.size)); clear hb2 hok2)
          unfold SlD.v
          have SE := Lib.hid (same_eq a1 a2 c1 c2 (wvL (lls ds) ts) w3 K1b.out.row K2.out.row HWL.out)
          obtain ⟨we, hwe⟩ : ∃ we, wvE (lls ds) ts = we := ⟨_, rfl⟩
          rw [hwe]
          have q1 : (we == we) = true := by simp
          clear hwe
          go_wp2_with (first | (go_at_call 11; refine SE.out.mono ?_; rintro e w4 ⟨rfl, hb4⟩; have B4 := Lib.hid (B2.out.trans (hb4.mono B2.out.size)); clear hb4) | (go_at_call 6; refine (AW.out _).mono ?_; rintro e w5 ⟨rfl, hb5⟩; have B5 := Lib.hid (B4.out.trans (hb5.mono B4.out.size)); clear hb5))
          go_ret
          exact ⟨rfl, B5.out⟩

end Go.Proofs.Ytclhnpbjmefpeaa
