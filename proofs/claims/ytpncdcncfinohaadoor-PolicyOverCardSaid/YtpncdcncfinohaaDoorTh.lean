/- The law PolicyOver returns true, whatever the rows. -/
import Derived.Test.YtpncdcncfinohaaDoorTg
import Derived.Test.YtpncdcncfinohaaDoorYc
namespace Go.Proofs.YtpncdcncfinohaaDoor
open Go.RowKit Go.Sort Go.BigFrame

set_option maxRecDepth 100000 in
set_option maxHeartbeats 1000000 in
theorem short_three (g cap : Nat) (a1 a2 a3 : Option Addr) (n1 n2 n3 c1 c2 c3 : Nat) (w : World) (h0 : w.cell? ⟨g, 0, none⟩ = some (.slice a1 n1 c1)) (h1 : w.cell? ⟨g, 1, none⟩ = some (.slice a2 n2 c2)) (h2 : w.cell? ⟨g, 2, none⟩ = some (.slice a3 n3 c3)) :
    Calls Tryd.prog 5 #[.slice (some ⟨g, 0, none⟩) 3 cap] w fun e w' => e = .returned (.bool (decide (n1 ≤ 200) && decide (n2 ≤ 200) && decide (n3 ≤ 200))) ∧ w = w' := by
  go_enter Tryd.func5, Tryd.ntmps5
  go_wp2_with fail
  go_loopw [7] (fun i wr => ∃ k : Nat, i = .int .i64 k ∧ k ≤ 3 ∧ wr = w ∧ (1 ≤ k → n1 ≤ 200) ∧ (2 ≤ k → n2 ≤ 200) ∧ (3 ≤ k → n3 ≤ 200)) (fun i _ => 3 - (intOf i).toNat)
  case atStart => exact ⟨0, rfl, by omega, rfl, fun h => absurd h (by omega), fun h => absurd h (by omega), fun h => absurd h (by omega)⟩
  case round =>
    obtain ⟨k, rfl, hk, rfl, hn1, hn2, hn3⟩ := hrel
    have hh : k = 0 ∨ k = 1 ∨ k = 2 ∨ k = 3 := by omega
    rcases hh with rfl | rfl | rfl | rfl
    · clear hn1 hn2 hn3
      by_cases h : n1 ≤ 200
      · have e1 : decide ((200 : Int) < (n1 : Int)) = false := by simp; omega
        have e2 : ¬ (200 : Int) < (n1 : Int) := by omega
        have HH := Lib.hid h
        clear h
        go_wp2_with fail
        exact ⟨⟨1, rfl, by omega, by first | trivial | rfl, fun _ => HH.out, fun h => absurd h (by omega), fun h => absurd h (by omega)⟩, by simp [intOf]⟩
      · have e1 : decide ((200 : Int) < (n1 : Int)) = true := by simp; omega
        have e2 : (200 : Int) < (n1 : Int) := by omega
        have HF : Hid (false = (decide (n1 ≤ 200) && decide (n2 ≤ 200) && decide (n3 ≤ 200))) := Lib.hid (by simp [h])
        clear h
        go_wp2_with fail
        go_ret
        exact ⟨ret_bool HF.out, rfl⟩
    · have HH1 := Lib.hid (hn1 (by omega)); clear hn1 hn2 hn3
      by_cases h : n2 ≤ 200
      · have e1 : decide ((200 : Int) < (n2 : Int)) = false := by simp; omega
        have e2 : ¬ (200 : Int) < (n2 : Int) := by omega
        have HH := Lib.hid h
        clear h
        go_wp2_with fail
        exact ⟨⟨2, rfl, by omega, by first | trivial | rfl, fun _ => HH1.out, fun _ => HH.out, fun h => absurd h (by omega)⟩, by simp [intOf]⟩
      · have e1 : decide ((200 : Int) < (n2 : Int)) = true := by simp; omega
        have e2 : (200 : Int) < (n2 : Int) := by omega
        have HF : Hid (false = (decide (n1 ≤ 200) && decide (n2 ≤ 200) && decide (n3 ≤ 200))) := Lib.hid (by simp [h])
        clear h
        go_wp2_with fail
        go_ret
        exact ⟨ret_bool HF.out, rfl⟩
    · have HH1 := Lib.hid (hn1 (by omega)); have HH2 := Lib.hid (hn2 (by omega)); clear hn1 hn2 hn3
      by_cases h : n3 ≤ 200
      · have e1 : decide ((200 : Int) < (n3 : Int)) = false := by simp; omega
        have e2 : ¬ (200 : Int) < (n3 : Int) := by omega
        have HH := Lib.hid h
        clear h
        go_wp2_with fail
        exact ⟨⟨3, rfl, by omega, by first | trivial | rfl, fun _ => HH1.out, fun _ => HH2.out, fun _ => HH.out⟩, by simp [intOf]⟩
      · have e1 : decide ((200 : Int) < (n3 : Int)) = true := by simp; omega
        have e2 : (200 : Int) < (n3 : Int) := by omega
        have HF : Hid (false = (decide (n1 ≤ 200) && decide (n2 ≤ 200) && decide (n3 ≤ 200))) := Lib.hid (by simp [h])
        clear h
        go_wp2_with fail
        go_ret
        exact ⟨ret_bool HF.out, rfl⟩
    · have HF : Hid (true = (decide (n1 ≤ 200) && decide (n2 ≤ 200) && decide (n3 ≤ 200))) := Lib.hid (by rw [decide_eq_true (hn1 (by omega)), decide_eq_true (hn2 (by omega)), decide_eq_true (hn3 (by omega))]; rfl)
      clear hn1 hn2 hn3
      go_wp2_with fail
      go_ret
      exact ⟨ret_bool HF.out, rfl⟩

/-- Three slices in a block of their own. -/
def threeO (a b c : Value) : Obj := .cells #[a, b, c] 22
theorem short_new3 (a1 a2 a3 : Option Addr) (n1 n2 n3 c1 c2 c3 : Nat) (w : World) :
    Calls Tryd.prog 5 #[.slice (some ⟨w.heap.size, 0, none⟩) 3 3] (w.alloc (threeO (.slice a1 n1 c1) (.slice a2 n2 c2) (.slice a3 n3 c3))) fun e w' => e = .returned (.bool (decide (n1 ≤ 200) && decide (n2 ≤ 200) && decide (n3 ≤ 200))) ∧ w.alloc (threeO (.slice a1 n1 c1) (.slice a2 n2 c2) (.slice a3 n3 c3)) = w' :=
  short_three w.heap.size 3 a1 a2 a3 n1 n2 n3 c1 c2 c3 _ (cells_at (heap_alloc_new w (threeO (.slice a1 n1 c1) (.slice a2 n2 c2) (.slice a3 n3 c3))) 0) (cells_at (heap_alloc_new w (threeO (.slice a1 n1 c1) (.slice a2 n2 c2) (.slice a3 n3 c3))) 1) (cells_at (heap_alloc_new w (threeO (.slice a1 n1 c1) (.slice a2 n2 c2) (.slice a3 n3 c3))) 2)

set_option maxRecDepth 100000 in
set_option maxHeartbeats 1000000 in
theorem over_long (a1 a2 a3 : Option Addr) (n1 n2 n3 c1 c2 c3 : Nat) (w : World) (hS : SortsAt w) (h : ¬ (n1 ≤ 200 ∧ n2 ≤ 200 ∧ n3 ≤ 200)) :
    Calls Tryd.prog 3 #[.slice a1 n1 c1, .slice a2 n2 c2, .slice a3 n3 c3] w fun e w' => e = .returned (.bool true) ∧ Below w.heap.size w w' := by
  have hb : Below w.heap.size w (w.alloc (threeO (.slice a1 n1 c1) (.slice a2 n2 c2) (.slice a3 n3 c3))) := (Below.refl _ _).alloc (Nat.le_refl _) _
  have HB := Lib.hid hb
  have SH := Lib.hid (short_new3 a1 a2 a3 n1 n2 n3 c1 c2 c3 w)
  have hd : (decide (n1 ≤ 200) && decide (n2 ≤ 200) && decide (n3 ≤ 200)) = false := by
    cases hc : (decide (n1 ≤ 200) && decide (n2 ≤ 200) && decide (n3 ≤ 200)) with
    | false => rfl
    | true =>
      simp only [Bool.and_eq_true, decide_eq_true_eq] at hc
      exact absurd ⟨hc.1.1, hc.1.2, hc.2⟩ h
  rw [hd] at SH
  have AW := Lib.hid (awake_any _ (hS.below hb hS.pos))
  clear hS h hb hd
  go_enter Tryd.func3, Tryd.ntmps3
  go_wp2_with (first | (go_at_call 5; refine SH.out.mono ?_; rintro e w1 ⟨rfl, rfl⟩) | (go_at_call 6; refine AW.out.mono ?_; rintro e w2 ⟨rfl, hb2⟩; have B2 := Lib.hid hb2; clear hb2))
  go_ret
  exact ⟨rfl, HB.out.trans (B2.out.mono HB.out.size)⟩

theorem effE_zero {ss : List SlD} (h : effE ss = 0) : allOk ss = true := by
  unfold effE at h
  split at h
  · assumption
  · omega
theorem ovL_good {a b : List PolD} (ha : okS a = true) (hb : okS b = true) : ovL a b = mrg a b := by unfold ovL; rw [if_pos ⟨ha, hb⟩]
theorem ovL_len {a b : List PolD} (n : Nat) (h : a.length + b.length ≤ n) : (ovL a b).length ≤ n := by
  unfold ovL
  split
  · exact Nat.le_trans (mrg_length a b) h
  · simp
/-- same of two slices that hold one row. -/
theorem same_of {d1 d2 : SlD} (w : World) (h1 : d1.Ok w) (h2 : d2.Ok w) (he : d1.l = d2.l) (hl : d1.l.length ≤ 1000000) :
    Calls Tryd.prog 13 #[.slice d1.a d1.l.length d1.c, .slice d2.a d2.l.length d2.c] w fun e w' => e = .returned (.bool true) ∧ Below w.heap.size w w' := by
  have := eq13_any d1.a d2.a d1.c d2.c d1.l d2.l w h1.row h2.row hl
  rw [eqL_true he] at this
  exact this

set_option maxRecDepth 100000 in
set_option maxHeartbeats 8000000 in
theorem over_short (da db dc : SlD) (w : World) (hS : SortsAt w) (h1 : da.Ok w) (h2 : db.Ok w) (h3 : dc.Ok w) (hl1 : da.l.length ≤ 200) (hl2 : db.l.length ≤ 200) (hl3 : dc.l.length ≤ 200) :
    Calls Tryd.prog 3 #[.slice da.a da.l.length da.c, .slice db.a db.l.length db.c, .slice dc.a dc.l.length dc.c] w fun e w' => e = .returned (.bool true) ∧ Below w.heap.size w w' := by
  have hb : Below w.heap.size w (w.alloc (threeO da.v db.v dc.v)) := (Below.refl _ _).alloc (Nat.le_refl _) _
  have HB := Lib.hid hb
  have SH := Lib.hid (short_new3 da.a db.a dc.a da.l.length db.l.length dc.l.length da.c db.c dc.c w)
  rw [show (decide (da.l.length ≤ 200) && decide (db.l.length ≤ 200) && decide (dc.l.length ≤ 200)) = true by simp [hl1, hl2, hl3]] at SH
  have HS := Lib.hid fun wx (hx : Below w.heap.size w wx) => hS.below hx hS.pos
  have A1 := Lib.hid fun wx (hx : Below w.heap.size w wx) => h1.below hx
  have A2 := Lib.hid fun wx (hx : Below w.heap.size w wx) => h2.below hx
  have A3 := Lib.hid fun wx (hx : Below w.heap.size w wx) => h3.below hx
  have L1 := Lib.hid hl1
  have L2 := Lib.hid hl2
  have L3 := Lib.hid hl3
  have AW := Lib.hid fun wx (hx : Below w.heap.size w wx) => awake_any wx (hS.below hx hS.pos)
  have OV := Lib.hid fun (d1 d2 : SlD) wx (hx : Below w.heap.size w wx) (g1 : d1.Ok wx) (g2 : d2.Ok wx) (k1 : d1.l.length ≤ 1000) (k2 : d2.l.length ≤ 1000) => over_any d1 d2 wx (hS.below hx hS.pos) g1 g2 k1 k2
  have EF := Lib.hid fun wx (hx : Below w.heap.size w wx) => effective_any wx.heap.size 3 [da, db, dc] (wx.alloc (.cells #[da.v, db.v, dc.v] 22)) (hS.below (hx.trans (((Below.refl _ _).alloc (Nat.le_refl _) _).mono hx.size)) hS.pos) (sls_three (h1.below hx) (h2.below hx) (h3.below hx)) (by simp) (by simp; omega)
  have RF := Lib.hid fun wx (hx : Below w.heap.size w wx) => reffective_any wx.heap.size 3 [da, db, dc] (wx.alloc (.cells #[da.v, db.v, dc.v] 22)) (hS.below (hx.trans (((Below.refl _ _).alloc (Nat.le_refl _) _).mono hx.size)) hS.pos) (sls_three (h1.below hx) (h2.below hx) (h3.below hx)) (by simp) (by simp; omega)
  rw [reff_three] at RF
  obtain ⟨er, her⟩ : ∃ er, effE [da, db, dc] = er := ⟨_, rfl⟩
  obtain ⟨eo, heo⟩ : ∃ eo, ovE da.l db.l = eo := ⟨_, rfl⟩
  obtain ⟨sb, hsb⟩ : ∃ sb, smB da.l db.l = sb := ⟨_, rfl⟩
  obtain ⟨se, hse⟩ : ∃ se, smE da.l db.l = se := ⟨_, rfl⟩
  rw [her] at EF RF
  have O1 := Lib.hid fun wx hx => OV.out da db wx hx (h1.below hx) (h2.below hx) (by omega) (by omega)
  have O2 := Lib.hid fun wx (hx : Below w.heap.size w wx) => rover_any da db wx (hS.below hx hS.pos) (h1.below hx) (h2.below hx) (by omega) (by omega)
  have S1 := Lib.hid fun wx (hx : Below w.heap.size w wx) => same11_any da db wx (hS.below hx hS.pos) (h1.below hx) (h2.below hx) (by omega) (by omega)
  have S2 := Lib.hid fun wx (hx : Below w.heap.size w wx) => same12_any da db wx (hS.below hx hS.pos) (h1.below hx) (h2.below hx) (by omega) (by omega)
  unfold SamePost at S1 S2
  rw [heo] at O1 O2
  rw [hsb, hse] at S1 S2
  have HER := Lib.hid her
  have HSB := Lib.hid hsb
  clear hb hS h1 h2 h3 hl1 hl2 hl3 her heo hsb hse
  go_enter Tryd.func3, Tryd.ntmps3
  go_wp2_with (go_at_call 5; refine SH.out.mono ?_; rintro e w1 ⟨rfl, rfl⟩)
  refine (O1.out _ HB.out).mono ?_
  rintro e w2 ⟨dx, hd, rfl, hok, hb⟩
  have D2 := Lib.hid hd
  have K2 := Lib.hid hok
  have B2 := Lib.hid (HB.out.trans (hb.mono HB.out.size))
  have N2 := Lib.hid hb
  clear hd hok hb
  unfold SlD.v
  go_wp2_with fail
  refine (O2.out _ B2.out).mono ?_
  rintro e w3 ⟨dy, hd, rfl, hok, hb⟩
  have D3 := Lib.hid hd
  have K3 := Lib.hid hok
  have B3 := Lib.hid (B2.out.trans (hb.mono B2.out.size))
  have N3 := Lib.hid hb
  clear hd hok hb
  unfold SlD.v
  go_wp2_with fail
  refine (EF.out _ B3.out).mono ?_
  rintro e w4 ⟨dz, hd, rfl, hok, hb⟩
  have D4 := Lib.hid hd
  have K4 := Lib.hid hok
  have B4 := Lib.hid ((B3.out.trans (((Below.refl _ _).alloc (Nat.le_refl _) _).mono B3.out.size)).trans (hb.mono (Nat.le_trans B3.out.size (by simp))))
  have N4 := Lib.hid ((((Below.refl _ _).alloc (Nat.le_refl _) _)).trans (hb.mono (by simp)))
  clear hd hok hb
  unfold SlD.v
  go_wp2_with fail
  refine (RF.out _ B4.out).mono ?_
  rintro e w5 ⟨dw, hd, rfl, hok, hb⟩
  have D5 := Lib.hid hd
  have K5 := Lib.hid hok
  have B5 := Lib.hid ((B4.out.trans (((Below.refl _ _).alloc (Nat.le_refl _) _).mono B4.out.size)).trans (hb.mono (Nat.le_trans B4.out.size (by simp))))
  have N5 := Lib.hid ((((Below.refl _ _).alloc (Nat.le_refl _) _)).trans (hb.mono (by simp)))
  clear hd hok hb
  unfold SlD.v
  go_wp2_with fail
  refine (S1.out _ B5.out).mono ?_
  rintro e w6 ⟨rfl, hb⟩
  have N6 := Lib.hid hb
  have B6 := Lib.hid (B5.out.trans (hb.mono B5.out.size))
  clear hb
  go_wp2_with fail
  refine (S2.out _ B6.out).mono ?_
  rintro e w7 ⟨rfl, hb⟩
  have N7 := Lib.hid hb
  have B7 := Lib.hid (B6.out.trans (hb.mono B6.out.size))
  clear hb
  go_wp2_with fail
  have KX := Lib.hid ((((((K2.out.below N3.out).below N4.out).below N5.out).below N6.out).below N7.out))
  have KY := Lib.hid (((((K3.out.below N4.out).below N5.out).below N6.out).below N7.out))
  have KZ := Lib.hid ((((K4.out.below N5.out).below N6.out).below N7.out))
  have KW := Lib.hid (((K5.out.below N6.out).below N7.out))
  have LX : Hid (dx.l.length ≤ 400) := Lib.hid (by rw [D2.out]; exact ovL_len _ (by have := L1.out; have := L2.out; omega))
  have LZ : Hid (dz.l.length ≤ 3000) := Lib.hid (by
    rw [D4.out]
    unfold effL
    split
    · have := effTo_len (ss := [da, db, dc]) (by have := L1.out; have := L2.out; have := L3.out; simp; omega) 3 (by simp)
      simpa using this
    · simp)
  refine (same_of w7 KX.out KY.out (D2.out.trans D3.out.symm) (by have := LX.out; omega)).mono ?_
  rintro e w8 ⟨rfl, hb⟩
  have N8 := Lib.hid hb
  have B8 := Lib.hid (B7.out.trans (hb.mono B7.out.size))
  clear hb
  go_wp2_with fail
  refine (same_of w8 (KZ.out.below N8.out) (KW.out.below N8.out) (D4.out.trans D5.out.symm) (by have := LZ.out; omega)).mono ?_
  rintro e w9 ⟨rfl, hb⟩
  have N9 := Lib.hid hb
  have B9 := Lib.hid (B8.out.trans (hb.mono B8.out.size))
  clear hb
  by_cases hE : er = 0
  · have f1 : (er != 0) = false := by simpa using hE
    have HA := Lib.hid (effE_zero (HER.out.trans hE))
    have K3' : Hid (okS da.l = true ∧ okS db.l = true ∧ okS dc.l = true) := Lib.hid (by simpa [allOk] using HA.out)
    clear hE
    have X9 := Lib.hid ((KX.out.below N8.out).below N9.out)
    have Z9 := Lib.hid ((KZ.out.below N8.out).below N9.out)
    have DX : Hid (dx.l = mrg da.l db.l) := Lib.hid (D2.out.trans (ovL_good K3'.out.1 K3'.out.2.1))
    have DZ : Hid (dz.l = mrg (mrg da.l db.l) dc.l) := Lib.hid (by
      rw [D4.out]
      unfold effL
      rw [if_pos HA.out]
      show mrg (mrg (mrg [] da.l) db.l) dc.l = _
      rw [mrg_nil_left (okS_up K3'.out.1)])
    have PA := Lib.hid fun wx (hx : Below w.heap.size w wx) => plain_any da wx (HS.out wx hx) (A1.out wx hx) (by have := L1.out; omega)
    have PB := Lib.hid fun wx (hx : Below w.heap.size w wx) => plain_any db wx (HS.out wx hx) (A2.out wx hx) (by have := L2.out; omega)
    go_wp2_with fail
    refine (OV.out dx dc _ B9.out X9.out (A3.out _ B9.out) (by have := LX.out; omega) (by have := L3.out; omega)).mono ?_
    rintro e w10 ⟨dl, hd, rfl, hok, hb⟩
    have D10 := Lib.hid hd
    have K10 := Lib.hid hok
    have B10 := Lib.hid (B9.out.trans (hb.mono B9.out.size))
    have N10 := Lib.hid hb
    clear hd hok hb
    unfold SlD.v
    go_wp2_with fail
    refine (OV.out db dc _ B10.out (A2.out _ B10.out) (A3.out _ B10.out) (by have := L2.out; omega) (by have := L3.out; omega)).mono ?_
    rintro e w11 ⟨dm, hd, rfl, hok, hb⟩
    have D11 := Lib.hid hd
    have K11 := Lib.hid hok
    have B11 := Lib.hid (B10.out.trans (hb.mono B10.out.size))
    have N11 := Lib.hid hb
    clear hd hok hb
    unfold SlD.v
    go_wp2_with fail
    have LM : Hid (dm.l.length ≤ 400) := Lib.hid (by rw [D11.out]; exact ovL_len _ (by have := L2.out; have := L3.out; omega))
    refine (OV.out da dm _ B11.out (A1.out _ B11.out) K11.out (by have := L1.out; omega) (by have := LM.out; omega)).mono ?_
    rintro e w12 ⟨dr, hd, rfl, hok, hb⟩
    have D12 := Lib.hid hd
    have K12 := Lib.hid hok
    have B12 := Lib.hid (B11.out.trans (hb.mono B11.out.size))
    have N12 := Lib.hid hb
    clear hd hok hb
    unfold SlD.v
    go_wp2_with fail
    refine (OV.out da da _ B12.out (A1.out _ B12.out) (A1.out _ B12.out) (by have := L1.out; omega) (by have := L1.out; omega)).mono ?_
    rintro e w13 ⟨dn, hd, rfl, hok, hb⟩
    have D13 := Lib.hid hd
    have K13 := Lib.hid hok
    have B13 := Lib.hid (B12.out.trans (hb.mono B12.out.size))
    have N13 := Lib.hid hb
    clear hd hok hb
    unfold SlD.v
    go_wp2_with fail
    refine (PA.out _ B13.out).mono ?_
    rintro e w14 ⟨dp, hd, rfl, hok, hb⟩
    have D14 := Lib.hid hd
    have K14 := Lib.hid hok
    have B14 := Lib.hid (B13.out.trans (hb.mono B13.out.size))
    have N14 := Lib.hid hb
    clear hd hok hb
    unfold SlD.v
    go_wp2_with fail
    refine (PB.out _ B14.out).mono ?_
    rintro e w15 ⟨dq, hd, rfl, hok, hb⟩
    have D15 := Lib.hid hd
    have K15 := Lib.hid hok
    have B15 := Lib.hid (B14.out.trans (hb.mono B14.out.size))
    have N15 := Lib.hid hb
    clear hd hok hb
    unfold SlD.v
    go_wp2_with fail
    have EL : Hid (dl.l = mrg (mrg da.l db.l) dc.l) := Lib.hid (by rw [D10.out, DX.out]; exact ovL_good (mrg_okS K3'.out.1 K3'.out.2.1) K3'.out.2.2)
    have EM : Hid (dm.l = mrg db.l dc.l) := Lib.hid (by rw [D11.out]; exact ovL_good K3'.out.2.1 K3'.out.2.2)
    have ER : Hid (dr.l = mrg (mrg da.l db.l) dc.l) := Lib.hid (by
      rw [D12.out, EM.out, ovL_good K3'.out.1 (mrg_okS K3'.out.2.1 K3'.out.2.2)]
      exact (mrg_assoc (okS_up K3'.out.1) (okS_up K3'.out.2.1) (okS_up K3'.out.2.2)).symm)
    have EN : Hid (dn.l = da.l) := Lib.hid (by rw [D13.out, ovL_good K3'.out.1 K3'.out.1]; exact mrg_self (okS_up K3'.out.1))
    have EP : Hid (dp.l = plainL da.l) := Lib.hid (by rw [D14.out, plL, if_pos K3'.out.1])
    have EQ : Hid (dq.l = plainL db.l) := Lib.hid (by rw [D15.out, plL, if_pos K3'.out.2.1])
    have ES : Hid (eqL dp.l dq.l = sb) := Lib.hid (by rw [EP.out, EQ.out, ← HSB.out, smB, if_pos ⟨K3'.out.1, K3'.out.2.1⟩])
    have LL : Hid (dl.l.length ≤ 1000) := Lib.hid (by rw [D10.out]; exact ovL_len _ (by have := LX.out; have := L3.out; omega))
    have LP : Hid (dp.l.length ≤ 1000) := Lib.hid (by rw [EP.out]; exact Nat.le_trans (List.length_filter_le _ _) (by have := L1.out; omega))
    have YL := Lib.hid (((((K10.out.below N11.out).below N12.out).below N13.out).below N14.out).below N15.out)
    have YR := Lib.hid (((K12.out.below N13.out).below N14.out).below N15.out)
    have YN := Lib.hid ((K13.out.below N14.out).below N15.out)
    have YP := Lib.hid (K14.out.below N15.out)
    have YZ := Lib.hid ((((((Z9.out.below N10.out).below N11.out).below N12.out).below N13.out).below N14.out).below N15.out)
    refine (same_of w15 YL.out YR.out (EL.out.trans ER.out.symm) (by have := LL.out; omega)).mono ?_
    rintro e w16 ⟨rfl, hb⟩
    have N16 := Lib.hid hb
    have B16 := Lib.hid (B15.out.trans (hb.mono B15.out.size))
    clear hb
    go_wp2_with fail
    refine (same_of w16 (YL.out.below N16.out) (YZ.out.below N16.out) (EL.out.trans DZ.out.symm) (by have := LL.out; omega)).mono ?_
    rintro e w17 ⟨rfl, hb⟩
    have N17 := Lib.hid hb
    have B17 := Lib.hid (B16.out.trans (hb.mono B16.out.size))
    clear hb
    go_wp2_with fail
    refine (same_of w17 ((YN.out.below N16.out).below N17.out) (A1.out _ B17.out) EN.out (by rw [EN.out]; have := L1.out; omega)).mono ?_
    rintro e w18 ⟨rfl, hb⟩
    have N18 := Lib.hid hb
    have B18 := Lib.hid (B17.out.trans (hb.mono B17.out.size))
    clear hb
    go_wp2_with fail
    have EQC := eq13_any dp.a dq.a dp.c dq.c dp.l dq.l w18 (((YP.out.below N16.out).below N17.out).below N18.out).row (((K15.out.below N16.out).below N17.out).below N18.out).row (by have := LP.out; omega)
    rw [ES.out] at EQC
    refine EQC.mono ?_
    clear EQC
    rintro e w19 ⟨rfl, hb⟩
    have B19 := Lib.hid (B18.out.trans (hb.mono B18.out.size))
    clear hb
    have f2 : (sb == sb) = true := by simp
    go_wp2_with fail
    refine (AW.out _ B19.out).mono ?_
    rintro e w20 ⟨rfl, hb⟩
    have B20 := Lib.hid (B19.out.trans (hb.mono B19.out.size))
    clear hb
    go_wp2_with fail
    go_ret
    exact ⟨rfl, B20.out⟩
  · have f1 : (er != 0) = true := by simpa using hE
    clear hE
    go_wp2_with (go_at_call 6; refine (AW.out _ B9.out).mono ?_; rintro e w30 ⟨rfl, hb30⟩; have B30 := Lib.hid (B9.out.trans (hb30.mono B9.out.size)); clear hb30)
    go_ret
    exact ⟨rfl, B30.out⟩

end Go.Proofs.YtpncdcncfinohaaDoor

