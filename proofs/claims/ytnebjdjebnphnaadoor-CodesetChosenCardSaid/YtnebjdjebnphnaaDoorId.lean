/- The law CodesetChosen. -/
import Derived.Test.YtnebjdjebnphnaaDoorIc
import Derived.Test.YtnebjdjebnphnaaDoorGa
import Derived.Lib.QuietBelow
namespace Go.Proofs.YtnebjdjebnphnaaDoor
set_option maxRecDepth 8000
open Go.RowKit Go.Sort Go.BigFrame

/-- Is it utf8, or one of these? -/
def spk (c : Int) (M : List Int) : Bool := decide (c = 3) || hasI M c
theorem spk_nil (c : Int) : spk c [] = decide (c = 3) := by simp [spk, hasI]
theorem spk_next {c x : Int} {L : List Int} {k : Nat} (h : L[k]? = some x) : spk c (L.take (k + 1)) = (spk c (L.take k) || x == c) := by
  obtain ⟨hk, hx⟩ := List.getElem?_eq_some_iff.1 h
  unfold spk hasI
  rw [List.take_succ_eq_append_getElem hk, hx, List.contains_eq_mem, List.contains_eq_mem, Bool.or_assoc]
  congr 1
  rw [Bool.eq_iff_iff]
  simp only [decide_eq_true_eq, List.mem_append, List.mem_singleton, Bool.or_eq_true, beq_iff_eq]
  exact ⟨fun g => g.imp id Eq.symm, fun g => g.imp id Eq.symm⟩
/-- What Common returns, with its parts named. -/
def CmQ (L : List Int) (ce : Int) (w : World) (e : Ending) (w' : World) : Prop :=
  ∃ ao cap, e = .returned (.tuple #[.slice ao L.length cap, .int .i64 ce]) ∧ IntRow w' ao L ∧ Below w.heap.size w w'

theorem comL_len (n : Int) (l : List Int) (m : Int) (r : List Int) : (comL n l m r).length ≤ 6 := by
  unfold comL
  split
  · exact comG_len _ _
  · simp

set_option maxRecDepth 100000 in
set_option maxHeartbeats 8000000 in
theorem chosen_long1 (n m : Int) (a1 a2 : Option Addr) (k1 k2 c1 c2 : Nat) (w : World) (hE : Env w) (h : 50 < k1) :
    Calls Tryd.prog 4 #[.agg #[.int .i64 n, .slice a1 k1 c1], .agg #[.int .i64 m, .slice a2 k2 c2]] w fun e w' => e = .returned (.bool true) ∧ Below w.heap.size w w' := by
  have HX := Lib.hid (BxI.start w n a1 k1 c1 m a2 k2 c2)
  have AW := Lib.hid fun wx (hx : Below w.heap.size w wx) => awake_any wx (hE.below hx)
  have e1 : (50 : Int) < (k1 : Int) := by omega
  have e2 : decide ((50 : Int) < (k1 : Int)) = true := decide_eq_true e1
  clear h hE
  go_enter Tryd.func4, Tryd.ntmps4
  go_wp2_with (go_at_call 7; refine (AW.out _ HX.out.below).mono ?_; rintro e w1 ⟨rfl, hb⟩; replace HX := Lib.hid (HX.out.later hb); clear hb)
  go_ret
  exact ⟨rfl, HX.out.below⟩

set_option maxRecDepth 100000 in
set_option maxHeartbeats 8000000 in
theorem chosen_long2 (n m : Int) (a1 a2 : Option Addr) (k1 k2 c1 c2 : Nat) (w : World) (hE : Env w) (h : ¬ 50 < k1) (h2 : 50 < k2) :
    Calls Tryd.prog 4 #[.agg #[.int .i64 n, .slice a1 k1 c1], .agg #[.int .i64 m, .slice a2 k2 c2]] w fun e w' => e = .returned (.bool true) ∧ Below w.heap.size w w' := by
  have HX := Lib.hid (BxI.start w n a1 k1 c1 m a2 k2 c2)
  have AW := Lib.hid fun wx (hx : Below w.heap.size w wx) => awake_any wx (hE.below hx)
  have e1 : ¬ (50 : Int) < (k1 : Int) := by omega
  have e2 : decide ((50 : Int) < (k1 : Int)) = false := decide_eq_false e1
  have e3 : (50 : Int) < (k2 : Int) := by omega
  have e4 : decide ((50 : Int) < (k2 : Int)) = true := decide_eq_true e3
  have p0 := HX.out.p0
  have p1 := HX.out.p1
  have q0 := HX.out.q0
  have q1 := HX.out.q1
  clear h h2 hE
  go_enter Tryd.func4, Tryd.ntmps4
  go_wp2_with (go_at_call 7; refine (AW.out _ HX.out.below).mono ?_; rintro e w1 ⟨rfl, hb⟩; replace HX := Lib.hid (HX.out.later hb); clear hb)
  go_ret
  exact ⟨rfl, HX.out.below⟩

set_option maxRecDepth 100000 in
set_option maxHeartbeats 16000000 in
theorem chosen_a (n m : Int) (a1 a2 : Option Addr) (c1 c2 : Nat) (l r : List Int) (w : World) (hE : Env w) (h1 : IntRow w a1 l) (h2 : IntRow w a2 r) (hc1 : l.length ≤ c1) (hc2 : r.length ≤ c2) (hl : l.length ≤ 50) (hr : r.length ≤ 50) (hv : validC n l = false) (her : ¬ chE n l m r = 0) :
    Calls Tryd.prog 4 #[.agg #[.int .i64 n, .slice a1 l.length c1], .agg #[.int .i64 m, .slice a2 r.length c2]] w fun e w' => e = .returned (.bool true) ∧ Below w.heap.size w w' := by
  have e1 : ¬ (50 : Int) < (l.length : Int) := by omega
  have e2 : decide ((50 : Int) < (l.length : Int)) = false := decide_eq_false e1
  have e3 : ¬ (50 : Int) < (r.length : Int) := by omega
  have e4 : decide ((50 : Int) < (r.length : Int)) = false := decide_eq_false e3
  have AW := Lib.hid fun wx (hx : Below w.heap.size w wx) => awake_any wx (hE.below hx)
  have C1 : Hid (∀ wx, Below w.heap.size w wx → Calls Tryd.prog 16 #[.agg #[.int .i64 n, .slice a1 l.length c1], .agg #[.int .i64 m, .slice a2 r.length c2]] wx fun e w' => e = .returned (.tuple #[.int .i64 (chN n l m r), .int .i64 (chE n l m r)]) ∧ Below wx.heap.size wx w') := Lib.hid fun wx hx => choose_any n m a1 a2 c1 c2 l r wx (h1.below hx) (h2.below hx) hc1 hc2 (by omega) (by omega)
  have C2 : Hid (∀ wx, Below w.heap.size w wx → Calls Tryd.prog 17 #[.agg #[.int .i64 n, .slice a1 l.length c1], .agg #[.int .i64 m, .slice a2 r.length c2]] wx fun e w' => e = .returned (.tuple #[.int .i64 (chN n l m r), .int .i64 (chE n l m r)]) ∧ Below wx.heap.size wx w') := Lib.hid fun wx hx => rchoose_any n m a1 a2 c1 c2 l r wx (h1.below hx) (h2.below hx) hc1 hc2 (by omega) (by omega)
  have C3 : Hid (∀ wx, Below w.heap.size w wx → Calls Tryd.prog 18 #[.agg #[.int .i64 n, .slice a1 l.length c1], .agg #[.int .i64 m, .slice a2 r.length c2]] wx (CmQ (comL n l m r) (comE n l m r) wx)) := Lib.hid fun wx hx => common_any n m a1 a2 c1 c2 l r wx (h1.below hx) (h2.below hx) hc1 hc2 (by omega) (by omega)
  have C4 : Hid (∀ wx, Below w.heap.size w wx → Calls Tryd.prog 19 #[.agg #[.int .i64 n, .slice a1 l.length c1], .agg #[.int .i64 m, .slice a2 r.length c2]] wx (CmQ (comL n l m r) (comE n l m r) wx)) := Lib.hid fun wx hx => rcommon_any n m a1 a2 c1 c2 l r wx (h1.below hx) (h2.below hx) hc1 hc2 (by omega) (by omega)
  have C5 := Lib.hid fun wx (hx : Below w.heap.size w wx) => format_any n a1 c1 l wx (hE.below hx) (h1.below hx) hc1
  have C6 := Lib.hid fun wx (hx : Below w.heap.size w wx) => valid_any n a1 c1 l wx (h1.below hx) hc1
  have C7 := Lib.hid fun wx (hx : Below w.heap.size w wx) => rvalid_any n a1 c1 l wx (h1.below hx) hc1
  have C9 := Lib.hid fun wx (hx : Below w.heap.size w wx) => rformat_any n a1 c1 l wx (h1.below hx) hc1
  have PA : Hid (∀ wx, Below w.heap.size w wx → Calls Tryd.prog 24 #[.string (fmtB n l)] wx (PrP wx (prsN (fmtB n l)) (prsE (fmtB n l)) (prsL (fmtB n l)))) := Lib.hid fun wx hx => parse_any (fmtB n l) wx (hE.below hx) (fmt_size n l)
  have HR1 := Lib.hid h1
  have HL50 := Lib.hid hl
  have HX := Lib.hid (BxI.start w n a1 l.length c1 m a2 r.length c2)
  have HCL := Lib.hid (comL_len n l m r)
  obtain ⟨vp, hvp⟩ : ∃ v, validC n l = v := ⟨_, rfl⟩
  obtain ⟨s, hs⟩ : ∃ v, fmtB n l = v := ⟨_, rfl⟩
  obtain ⟨c, hc⟩ : ∃ v, chN n l m r = v := ⟨_, rfl⟩
  obtain ⟨er, herr⟩ : ∃ v, chE n l m r = v := ⟨_, rfl⟩
  obtain ⟨L, hL⟩ : ∃ v, comL n l m r = v := ⟨_, rfl⟩
  obtain ⟨ce, hce⟩ : ∃ v, comE n l m r = v := ⟨_, rfl⟩
  rw [hvp] at C6 C7
  rw [hs] at C5 C9 PA
  rw [hc, herr] at C1 C2
  rw [hL, hce] at C3 C4
  rw [hL] at HCL
  obtain rfl : vp = false := hvp.symm.trans hv
  have her' : ¬ er = 0 := by rw [← herr]; exact her
  have herd : (er == 0) = false := beq_false_of_ne her'
  clear hE h1 h2 hc1 hc2 hl hr hs hc hL hce hv her
  have p0 := HX.out.p0
  have p1 := HX.out.p1
  have q0 := HX.out.q0
  have q1 := HX.out.q1
  go_enter Tryd.func4, Tryd.ntmps4
  go_wp2_with fail
  refine (C1.out _ HX.out.below).mono ?_
  rintro e w1 ⟨rfl, hb⟩
  have HX1 := HX
  replace HX := Lib.hid (HX.out.later hb)
  clear hb p0 p1 q0 q1
  have p0 := HX.out.p0
  have p1 := HX.out.p1
  have q0 := HX.out.q0
  have q1 := HX.out.q1
  go_wp2_with fail
  refine (C2.out _ HX.out.below).mono ?_
  rintro e w2 ⟨rfl, hb⟩
  have HX2 := HX
  replace HX := Lib.hid (HX.out.later hb)
  clear hb p0 p1 q0 q1
  have p0 := HX.out.p0
  have p1 := HX.out.p1
  have q0 := HX.out.q0
  have q1 := HX.out.q1
  go_wp2_with fail
  refine (C3.out _ HX.out.below).mono ?_
  rintro e w3 ⟨ao3, cap3, rfl, hrow, hb⟩
  have HX3 := HX
  replace HX := Lib.hid (HX.out.later hb)
  have HR3 := Lib.hid hrow
  clear hrow
  clear hb p0 p1 q0 q1
  have p0 := HX.out.p0
  have p1 := HX.out.p1
  have q0 := HX.out.q0
  have q1 := HX.out.q1
  go_wp2_with fail
  refine (C4.out _ HX.out.below).mono ?_
  rintro e w4 ⟨ao4, cap4, rfl, hrow, hb⟩
  have HX4 := HX
  replace HX := Lib.hid (HX.out.later hb)
  have HR3b := Lib.hid (HR3.out.below hb)
  have HR4 := Lib.hid hrow
  clear hrow
  clear hb p0 p1 q0 q1
  have p0 := HX.out.p0
  have p1 := HX.out.p1
  have q0 := HX.out.q0
  have q1 := HX.out.q1
  go_wp2_with fail
  refine (C5.out _ HX.out.below).mono ?_
  rintro e w5 ⟨rfl, hb⟩
  have HX5 := HX
  replace HX := Lib.hid (HX.out.later hb)
  have HR3c := Lib.hid (HR3b.out.below hb)
  have HR4c := Lib.hid (HR4.out.below hb)
  clear hb p0 p1 q0 q1
  have p0 := HX.out.p0
  have p1 := HX.out.p1
  have q0 := HX.out.q0
  have q1 := HX.out.q1
  have P0 := cell_regrown p0
  have P1 := cell_regrown p1
  have BX := Lib.hid fun d os => HX.out.below.trans ((below_regrown w5 d os).mono HX.out.below.size)
  have V6 : Hid (∀ d os, Calls Tryd.prog 21 #[.agg #[.int .i64 n, .slice a1 l.length c1]] (grow (redrawn w5 d) os) fun e w'' => e = .returned (.bool false) ∧ ∃ p : Regrown, w'' = grow (redrawn w5 p.d) p.os) := Lib.hid fun d os => Calls.regrown_of (C6.out _ (BX.out d os))
  have V7 : Hid (∀ d os, Calls Tryd.prog 22 #[.agg #[.int .i64 n, .slice a1 l.length c1]] (grow (redrawn w5 d) os) fun e w'' => e = .returned (.bool false) ∧ ∃ p : Regrown, w'' = grow (redrawn w5 p.d) p.os) := Lib.hid fun d os => Calls.regrown_of (C7.out _ (BX.out d os))
  have V8 : Hid (∀ d os, Calls Tryd.prog 12 #[.slice ao3 L.length cap3, .slice ao4 L.length cap4] (grow (redrawn w5 d) os) fun e w'' => e = .returned (.bool true) ∧ ∃ p : Regrown, w'' = grow (redrawn w5 p.d) p.os) := Lib.hid fun d os => Calls.regrown_of (sameI_eq ao3 ao4 cap3 cap4 L _ (HR3c.out.below (below_regrown w5 d os)) (HR4c.out.below (below_regrown w5 d os)) (by have := HCL.out; omega))
  have V9 : Hid (∀ d os, Calls Tryd.prog 23 #[.agg #[.int .i64 n, .slice a1 l.length c1]] (grow (redrawn w5 d) os) fun e w'' => e = .returned (.string s) ∧ ∃ p : Regrown, w'' = grow (redrawn w5 p.d) p.os) := Lib.hid fun d os => Calls.regrown_of (C9.out _ (BX.out d os))
  have z1 : (c != c) = false := by simp
  have z2 : (er != er) = false := by simp
  have z3 : (ce != ce) = false := by simp
  go_wp2_with fail
  refine wp_region_quiet_below (by kernel_rfl) (by kernel_rfl) ?_
  repeat (go_big_quiet_step (first | exact V6.out _ _ | exact V7.out _ _ | exact V8.out _ _ | exact V9.out _ _))
  refine wpQuiet_nil ?_
  intro _ hw'
  obtain ⟨⟨dq, osq⟩, hw''⟩ := hw'
  subst hw''
  clear P0 P1 V6 V7 V8 V9 z1 z2 z3 BX p0 p1 q0 q1
  obtain ⟨w6, hw6⟩ : ∃ x, grow (redrawn w5 dq) osq = x := ⟨_, rfl⟩
  have hb : Below w5.heap.size w5 w6 := by rw [← hw6]; exact below_regrown w5 dq osq
  have HR3d := Lib.hid (HR3c.out.below hb)
  replace HX := Lib.hid (HX.out.later hb)
  have p0 := HX.out.p0
  have p1 := HX.out.p1
  have q0 := HX.out.q0
  have q1 := HX.out.q1
  rw [hw6]
  clear hw6 hb
  go_wp2_with (first
    | (go_at_call 22; refine (C7.out _ HX.out.below).mono ?_; rintro e w7 ⟨rfl, hb⟩; replace HX := Lib.hid (HX.out.later hb); clear hb)
    | (go_at_call 7; refine (AW.out _ HX.out.below).mono ?_; rintro e w8 ⟨rfl, hb⟩; replace HX := Lib.hid (HX.out.later hb); clear hb))
  go_ret
  exact ⟨rfl, HX.out.below⟩

set_option maxRecDepth 100000 in
set_option maxHeartbeats 16000000 in
theorem chosen_b (n m : Int) (a1 a2 : Option Addr) (c1 c2 : Nat) (l r : List Int) (w : World) (hE : Env w) (h1 : IntRow w a1 l) (h2 : IntRow w a2 r) (hc1 : l.length ≤ c1) (hc2 : r.length ≤ c2) (hl : l.length ≤ 50) (hr : r.length ≤ 50) (hv : validC n l = true) (her : ¬ chE n l m r = 0) :
    Calls Tryd.prog 4 #[.agg #[.int .i64 n, .slice a1 l.length c1], .agg #[.int .i64 m, .slice a2 r.length c2]] w fun e w' => e = .returned (.bool true) ∧ Below w.heap.size w w' := by
  have e1 : ¬ (50 : Int) < (l.length : Int) := by omega
  have e2 : decide ((50 : Int) < (l.length : Int)) = false := decide_eq_false e1
  have e3 : ¬ (50 : Int) < (r.length : Int) := by omega
  have e4 : decide ((50 : Int) < (r.length : Int)) = false := decide_eq_false e3
  have AW := Lib.hid fun wx (hx : Below w.heap.size w wx) => awake_any wx (hE.below hx)
  have C1 : Hid (∀ wx, Below w.heap.size w wx → Calls Tryd.prog 16 #[.agg #[.int .i64 n, .slice a1 l.length c1], .agg #[.int .i64 m, .slice a2 r.length c2]] wx fun e w' => e = .returned (.tuple #[.int .i64 (chN n l m r), .int .i64 (chE n l m r)]) ∧ Below wx.heap.size wx w') := Lib.hid fun wx hx => choose_any n m a1 a2 c1 c2 l r wx (h1.below hx) (h2.below hx) hc1 hc2 (by omega) (by omega)
  have C2 : Hid (∀ wx, Below w.heap.size w wx → Calls Tryd.prog 17 #[.agg #[.int .i64 n, .slice a1 l.length c1], .agg #[.int .i64 m, .slice a2 r.length c2]] wx fun e w' => e = .returned (.tuple #[.int .i64 (chN n l m r), .int .i64 (chE n l m r)]) ∧ Below wx.heap.size wx w') := Lib.hid fun wx hx => rchoose_any n m a1 a2 c1 c2 l r wx (h1.below hx) (h2.below hx) hc1 hc2 (by omega) (by omega)
  have C3 : Hid (∀ wx, Below w.heap.size w wx → Calls Tryd.prog 18 #[.agg #[.int .i64 n, .slice a1 l.length c1], .agg #[.int .i64 m, .slice a2 r.length c2]] wx (CmQ (comL n l m r) (comE n l m r) wx)) := Lib.hid fun wx hx => common_any n m a1 a2 c1 c2 l r wx (h1.below hx) (h2.below hx) hc1 hc2 (by omega) (by omega)
  have C4 : Hid (∀ wx, Below w.heap.size w wx → Calls Tryd.prog 19 #[.agg #[.int .i64 n, .slice a1 l.length c1], .agg #[.int .i64 m, .slice a2 r.length c2]] wx (CmQ (comL n l m r) (comE n l m r) wx)) := Lib.hid fun wx hx => rcommon_any n m a1 a2 c1 c2 l r wx (h1.below hx) (h2.below hx) hc1 hc2 (by omega) (by omega)
  have C5 := Lib.hid fun wx (hx : Below w.heap.size w wx) => format_any n a1 c1 l wx (hE.below hx) (h1.below hx) hc1
  have C6 := Lib.hid fun wx (hx : Below w.heap.size w wx) => valid_any n a1 c1 l wx (h1.below hx) hc1
  have C7 := Lib.hid fun wx (hx : Below w.heap.size w wx) => rvalid_any n a1 c1 l wx (h1.below hx) hc1
  have C9 := Lib.hid fun wx (hx : Below w.heap.size w wx) => rformat_any n a1 c1 l wx (h1.below hx) hc1
  have PA : Hid (∀ wx, Below w.heap.size w wx → Calls Tryd.prog 24 #[.string (fmtB n l)] wx (PrP wx (prsN (fmtB n l)) (prsE (fmtB n l)) (prsL (fmtB n l)))) := Lib.hid fun wx hx => parse_any (fmtB n l) wx (hE.below hx) (fmt_size n l)
  have HR1 := Lib.hid h1
  have HL50 := Lib.hid hl
  have HX := Lib.hid (BxI.start w n a1 l.length c1 m a2 r.length c2)
  have HCL := Lib.hid (comL_len n l m r)
  have hpf := prs_fmt hv
  rw [hpf.2.1, hpf.2.2.1, hpf.2.2.2] at PA
  clear hpf
  obtain ⟨vp, hvp⟩ : ∃ v, validC n l = v := ⟨_, rfl⟩
  obtain ⟨s, hs⟩ : ∃ v, fmtB n l = v := ⟨_, rfl⟩
  obtain ⟨c, hc⟩ : ∃ v, chN n l m r = v := ⟨_, rfl⟩
  obtain ⟨er, herr⟩ : ∃ v, chE n l m r = v := ⟨_, rfl⟩
  obtain ⟨L, hL⟩ : ∃ v, comL n l m r = v := ⟨_, rfl⟩
  obtain ⟨ce, hce⟩ : ∃ v, comE n l m r = v := ⟨_, rfl⟩
  rw [hvp] at C6 C7
  rw [hs] at C5 C9 PA
  rw [hc, herr] at C1 C2
  rw [hL, hce] at C3 C4
  rw [hL] at HCL
  obtain rfl : vp = true := hvp.symm.trans hv
  have her' : ¬ er = 0 := by rw [← herr]; exact her
  have herd : (er == 0) = false := beq_false_of_ne her'
  clear hE h1 h2 hc1 hc2 hl hr hs hc hL hce hv her
  have p0 := HX.out.p0
  have p1 := HX.out.p1
  have q0 := HX.out.q0
  have q1 := HX.out.q1
  go_enter Tryd.func4, Tryd.ntmps4
  go_wp2_with fail
  refine (C1.out _ HX.out.below).mono ?_
  rintro e w1 ⟨rfl, hb⟩
  have HX1 := HX
  replace HX := Lib.hid (HX.out.later hb)
  clear hb p0 p1 q0 q1
  have p0 := HX.out.p0
  have p1 := HX.out.p1
  have q0 := HX.out.q0
  have q1 := HX.out.q1
  go_wp2_with fail
  refine (C2.out _ HX.out.below).mono ?_
  rintro e w2 ⟨rfl, hb⟩
  have HX2 := HX
  replace HX := Lib.hid (HX.out.later hb)
  clear hb p0 p1 q0 q1
  have p0 := HX.out.p0
  have p1 := HX.out.p1
  have q0 := HX.out.q0
  have q1 := HX.out.q1
  go_wp2_with fail
  refine (C3.out _ HX.out.below).mono ?_
  rintro e w3 ⟨ao3, cap3, rfl, hrow, hb⟩
  have HX3 := HX
  replace HX := Lib.hid (HX.out.later hb)
  have HR3 := Lib.hid hrow
  clear hrow
  clear hb p0 p1 q0 q1
  have p0 := HX.out.p0
  have p1 := HX.out.p1
  have q0 := HX.out.q0
  have q1 := HX.out.q1
  go_wp2_with fail
  refine (C4.out _ HX.out.below).mono ?_
  rintro e w4 ⟨ao4, cap4, rfl, hrow, hb⟩
  have HX4 := HX
  replace HX := Lib.hid (HX.out.later hb)
  have HR3b := Lib.hid (HR3.out.below hb)
  have HR4 := Lib.hid hrow
  clear hrow
  clear hb p0 p1 q0 q1
  have p0 := HX.out.p0
  have p1 := HX.out.p1
  have q0 := HX.out.q0
  have q1 := HX.out.q1
  go_wp2_with fail
  refine (C5.out _ HX.out.below).mono ?_
  rintro e w5 ⟨rfl, hb⟩
  have HX5 := HX
  replace HX := Lib.hid (HX.out.later hb)
  have HR3c := Lib.hid (HR3b.out.below hb)
  have HR4c := Lib.hid (HR4.out.below hb)
  clear hb p0 p1 q0 q1
  have p0 := HX.out.p0
  have p1 := HX.out.p1
  have q0 := HX.out.q0
  have q1 := HX.out.q1
  have P0 := cell_regrown p0
  have P1 := cell_regrown p1
  have BX := Lib.hid fun d os => HX.out.below.trans ((below_regrown w5 d os).mono HX.out.below.size)
  have V6 : Hid (∀ d os, Calls Tryd.prog 21 #[.agg #[.int .i64 n, .slice a1 l.length c1]] (grow (redrawn w5 d) os) fun e w'' => e = .returned (.bool true) ∧ ∃ p : Regrown, w'' = grow (redrawn w5 p.d) p.os) := Lib.hid fun d os => Calls.regrown_of (C6.out _ (BX.out d os))
  have V7 : Hid (∀ d os, Calls Tryd.prog 22 #[.agg #[.int .i64 n, .slice a1 l.length c1]] (grow (redrawn w5 d) os) fun e w'' => e = .returned (.bool true) ∧ ∃ p : Regrown, w'' = grow (redrawn w5 p.d) p.os) := Lib.hid fun d os => Calls.regrown_of (C7.out _ (BX.out d os))
  have V8 : Hid (∀ d os, Calls Tryd.prog 12 #[.slice ao3 L.length cap3, .slice ao4 L.length cap4] (grow (redrawn w5 d) os) fun e w'' => e = .returned (.bool true) ∧ ∃ p : Regrown, w'' = grow (redrawn w5 p.d) p.os) := Lib.hid fun d os => Calls.regrown_of (sameI_eq ao3 ao4 cap3 cap4 L _ (HR3c.out.below (below_regrown w5 d os)) (HR4c.out.below (below_regrown w5 d os)) (by have := HCL.out; omega))
  have V9 : Hid (∀ d os, Calls Tryd.prog 23 #[.agg #[.int .i64 n, .slice a1 l.length c1]] (grow (redrawn w5 d) os) fun e w'' => e = .returned (.string s) ∧ ∃ p : Regrown, w'' = grow (redrawn w5 p.d) p.os) := Lib.hid fun d os => Calls.regrown_of (C9.out _ (BX.out d os))
  have z1 : (c != c) = false := by simp
  have z2 : (er != er) = false := by simp
  have z3 : (ce != ce) = false := by simp
  go_wp2_with fail
  refine wp_region_quiet_below (by kernel_rfl) (by kernel_rfl) ?_
  repeat (go_big_quiet_step (first | exact V6.out _ _ | exact V7.out _ _ | exact V8.out _ _ | exact V9.out _ _))
  refine wpQuiet_nil ?_
  intro _ hw'
  obtain ⟨⟨dq, osq⟩, hw''⟩ := hw'
  subst hw''
  clear P0 P1 V6 V7 V8 V9 z1 z2 z3 BX p0 p1 q0 q1
  obtain ⟨w6, hw6⟩ : ∃ x, grow (redrawn w5 dq) osq = x := ⟨_, rfl⟩
  have hb : Below w5.heap.size w5 w6 := by rw [← hw6]; exact below_regrown w5 dq osq
  have HR3d := Lib.hid (HR3c.out.below hb)
  replace HX := Lib.hid (HX.out.later hb)
  have p0 := HX.out.p0
  have p1 := HX.out.p1
  have q0 := HX.out.q0
  have q1 := HX.out.q1
  rw [hw6]
  clear hw6 hb
  go_wp2_with (first
    | (go_at_call 22; refine (C7.out _ HX.out.below).mono ?_; rintro e w7 ⟨rfl, hb⟩; replace HX := Lib.hid (HX.out.later hb); clear hb)
    | (go_at_call 24; refine (PA.out _ HX.out.below).mono ?_; rintro e w8 ⟨ao8, cap8, rfl, _, hrow, hb⟩; replace HX := Lib.hid (HX.out.later hb); have HR8 := Lib.hid (fun o => hrow.below ((Below.refl _ _).alloc (Nat.le_refl _) o)); have HX9 := Lib.hid (fun o => HX.out.later ((Below.refl _ _).alloc (Nat.le_refl _) o)); clear hb hrow p0 p1 q0 q1; have p0 := (fun o => (HX9.out o).p0); have p1 := (fun o => (HX9.out o).p1))
    | (go_at_call 25; refine (sameC_eq n l ao8 a1 cap8 c1 _ (HR8.out _) (HR1.out.below (HX9.out _).below) (by have := HL50.out; omega)).mono ?_; rintro e w10 ⟨rfl, hb⟩; have HX10 := Lib.hid ((HX9.out _).later hb); clear hb)
    | (go_at_call 7; refine (AW.out _ HX10.out.below).mono ?_; rintro e w11 ⟨rfl, hb⟩; have HX11 := Lib.hid (HX10.out.later hb); clear hb))
  go_ret
  exact ⟨rfl, HX11.out.below⟩

set_option maxRecDepth 100000 in
set_option maxHeartbeats 16000000 in
theorem chosen_c (n m : Int) (a1 a2 : Option Addr) (c1 c2 : Nat) (l r : List Int) (w : World) (hE : Env w) (h1 : IntRow w a1 l) (h2 : IntRow w a2 r) (hc1 : l.length ≤ c1) (hc2 : r.length ≤ c2) (hl : l.length ≤ 50) (hr : r.length ≤ 50) (hv : validC n l = true) (her : chE n l m r = 0) :
    Calls Tryd.prog 4 #[.agg #[.int .i64 n, .slice a1 l.length c1], .agg #[.int .i64 m, .slice a2 r.length c2]] w fun e w' => e = .returned (.bool true) ∧ Below w.heap.size w w' := by
  have e1 : ¬ (50 : Int) < (l.length : Int) := by omega
  have e2 : decide ((50 : Int) < (l.length : Int)) = false := decide_eq_false e1
  have e3 : ¬ (50 : Int) < (r.length : Int) := by omega
  have e4 : decide ((50 : Int) < (r.length : Int)) = false := decide_eq_false e3
  have AW := Lib.hid fun wx (hx : Below w.heap.size w wx) => awake_any wx (hE.below hx)
  have C1 : Hid (∀ wx, Below w.heap.size w wx → Calls Tryd.prog 16 #[.agg #[.int .i64 n, .slice a1 l.length c1], .agg #[.int .i64 m, .slice a2 r.length c2]] wx fun e w' => e = .returned (.tuple #[.int .i64 (chN n l m r), .int .i64 (chE n l m r)]) ∧ Below wx.heap.size wx w') := Lib.hid fun wx hx => choose_any n m a1 a2 c1 c2 l r wx (h1.below hx) (h2.below hx) hc1 hc2 (by omega) (by omega)
  have C2 : Hid (∀ wx, Below w.heap.size w wx → Calls Tryd.prog 17 #[.agg #[.int .i64 n, .slice a1 l.length c1], .agg #[.int .i64 m, .slice a2 r.length c2]] wx fun e w' => e = .returned (.tuple #[.int .i64 (chN n l m r), .int .i64 (chE n l m r)]) ∧ Below wx.heap.size wx w') := Lib.hid fun wx hx => rchoose_any n m a1 a2 c1 c2 l r wx (h1.below hx) (h2.below hx) hc1 hc2 (by omega) (by omega)
  have C3 : Hid (∀ wx, Below w.heap.size w wx → Calls Tryd.prog 18 #[.agg #[.int .i64 n, .slice a1 l.length c1], .agg #[.int .i64 m, .slice a2 r.length c2]] wx (CmQ (comL n l m r) (comE n l m r) wx)) := Lib.hid fun wx hx => common_any n m a1 a2 c1 c2 l r wx (h1.below hx) (h2.below hx) hc1 hc2 (by omega) (by omega)
  have C4 : Hid (∀ wx, Below w.heap.size w wx → Calls Tryd.prog 19 #[.agg #[.int .i64 n, .slice a1 l.length c1], .agg #[.int .i64 m, .slice a2 r.length c2]] wx (CmQ (comL n l m r) (comE n l m r) wx)) := Lib.hid fun wx hx => rcommon_any n m a1 a2 c1 c2 l r wx (h1.below hx) (h2.below hx) hc1 hc2 (by omega) (by omega)
  have C5 := Lib.hid fun wx (hx : Below w.heap.size w wx) => format_any n a1 c1 l wx (hE.below hx) (h1.below hx) hc1
  have C6 := Lib.hid fun wx (hx : Below w.heap.size w wx) => valid_any n a1 c1 l wx (h1.below hx) hc1
  have C7 := Lib.hid fun wx (hx : Below w.heap.size w wx) => rvalid_any n a1 c1 l wx (h1.below hx) hc1
  have C9 := Lib.hid fun wx (hx : Below w.heap.size w wx) => rformat_any n a1 c1 l wx (h1.below hx) hc1
  have PA : Hid (∀ wx, Below w.heap.size w wx → Calls Tryd.prog 24 #[.string (fmtB n l)] wx (PrP wx (prsN (fmtB n l)) (prsE (fmtB n l)) (prsL (fmtB n l)))) := Lib.hid fun wx hx => parse_any (fmtB n l) wx (hE.below hx) (fmt_size n l)
  have HR1 := Lib.hid h1
  have HL50 := Lib.hid hl
  have HX := Lib.hid (BxI.start w n a1 l.length c1 m a2 r.length c2)
  have HCL := Lib.hid (comL_len n l m r)
  have hpf := prs_fmt hv
  rw [hpf.2.1, hpf.2.2.1, hpf.2.2.2] at PA
  clear hpf
  have HCH := Lib.hid (chosen_ok her)
  rw [her] at C1 C2
  obtain ⟨vp, hvp⟩ : ∃ v, validC n l = v := ⟨_, rfl⟩
  obtain ⟨s, hs⟩ : ∃ v, fmtB n l = v := ⟨_, rfl⟩
  obtain ⟨c, hc⟩ : ∃ v, chN n l m r = v := ⟨_, rfl⟩
  obtain ⟨er, herr⟩ : ∃ v, chE n l m r = v := ⟨_, rfl⟩
  obtain ⟨L, hL⟩ : ∃ v, comL n l m r = v := ⟨_, rfl⟩
  obtain ⟨ce, hce⟩ : ∃ v, comE n l m r = v := ⟨_, rfl⟩
  rw [hvp] at C6 C7
  rw [hs] at C5 C9 PA
  rw [hc] at C1 C2 HCH
  rw [hL] at HCH
  rw [hL, hce] at C3 C4
  rw [hL] at HCL
  obtain rfl : vp = true := hvp.symm.trans hv
  clear er herr
  clear hE h1 h2 hc1 hc2 hl hr hs hc hL hce hv her
  have p0 := HX.out.p0
  have p1 := HX.out.p1
  have q0 := HX.out.q0
  have q1 := HX.out.q1
  go_enter Tryd.func4, Tryd.ntmps4
  go_wp2_with fail
  refine (C1.out _ HX.out.below).mono ?_
  rintro e w1 ⟨rfl, hb⟩
  have HX1 := HX
  replace HX := Lib.hid (HX.out.later hb)
  clear hb p0 p1 q0 q1
  have p0 := HX.out.p0
  have p1 := HX.out.p1
  have q0 := HX.out.q0
  have q1 := HX.out.q1
  go_wp2_with fail
  refine (C2.out _ HX.out.below).mono ?_
  rintro e w2 ⟨rfl, hb⟩
  have HX2 := HX
  replace HX := Lib.hid (HX.out.later hb)
  clear hb p0 p1 q0 q1
  have p0 := HX.out.p0
  have p1 := HX.out.p1
  have q0 := HX.out.q0
  have q1 := HX.out.q1
  go_wp2_with fail
  refine (C3.out _ HX.out.below).mono ?_
  rintro e w3 ⟨ao3, cap3, rfl, hrow, hb⟩
  have HX3 := HX
  replace HX := Lib.hid (HX.out.later hb)
  have HR3 := Lib.hid hrow
  clear hrow
  clear hb p0 p1 q0 q1
  have p0 := HX.out.p0
  have p1 := HX.out.p1
  have q0 := HX.out.q0
  have q1 := HX.out.q1
  go_wp2_with fail
  refine (C4.out _ HX.out.below).mono ?_
  rintro e w4 ⟨ao4, cap4, rfl, hrow, hb⟩
  have HX4 := HX
  replace HX := Lib.hid (HX.out.later hb)
  have HR3b := Lib.hid (HR3.out.below hb)
  have HR4 := Lib.hid hrow
  clear hrow
  clear hb p0 p1 q0 q1
  have p0 := HX.out.p0
  have p1 := HX.out.p1
  have q0 := HX.out.q0
  have q1 := HX.out.q1
  go_wp2_with fail
  refine (C5.out _ HX.out.below).mono ?_
  rintro e w5 ⟨rfl, hb⟩
  have HX5 := HX
  replace HX := Lib.hid (HX.out.later hb)
  have HR3c := Lib.hid (HR3b.out.below hb)
  have HR4c := Lib.hid (HR4.out.below hb)
  clear hb p0 p1 q0 q1
  have p0 := HX.out.p0
  have p1 := HX.out.p1
  have q0 := HX.out.q0
  have q1 := HX.out.q1
  have P0 := cell_regrown p0
  have P1 := cell_regrown p1
  have BX := Lib.hid fun d os => HX.out.below.trans ((below_regrown w5 d os).mono HX.out.below.size)
  have V6 : Hid (∀ d os, Calls Tryd.prog 21 #[.agg #[.int .i64 n, .slice a1 l.length c1]] (grow (redrawn w5 d) os) fun e w'' => e = .returned (.bool true) ∧ ∃ p : Regrown, w'' = grow (redrawn w5 p.d) p.os) := Lib.hid fun d os => Calls.regrown_of (C6.out _ (BX.out d os))
  have V7 : Hid (∀ d os, Calls Tryd.prog 22 #[.agg #[.int .i64 n, .slice a1 l.length c1]] (grow (redrawn w5 d) os) fun e w'' => e = .returned (.bool true) ∧ ∃ p : Regrown, w'' = grow (redrawn w5 p.d) p.os) := Lib.hid fun d os => Calls.regrown_of (C7.out _ (BX.out d os))
  have V8 : Hid (∀ d os, Calls Tryd.prog 12 #[.slice ao3 L.length cap3, .slice ao4 L.length cap4] (grow (redrawn w5 d) os) fun e w'' => e = .returned (.bool true) ∧ ∃ p : Regrown, w'' = grow (redrawn w5 p.d) p.os) := Lib.hid fun d os => Calls.regrown_of (sameI_eq ao3 ao4 cap3 cap4 L _ (HR3c.out.below (below_regrown w5 d os)) (HR4c.out.below (below_regrown w5 d os)) (by have := HCL.out; omega))
  have V9 : Hid (∀ d os, Calls Tryd.prog 23 #[.agg #[.int .i64 n, .slice a1 l.length c1]] (grow (redrawn w5 d) os) fun e w'' => e = .returned (.string s) ∧ ∃ p : Regrown, w'' = grow (redrawn w5 p.d) p.os) := Lib.hid fun d os => Calls.regrown_of (C9.out _ (BX.out d os))
  have z1 : (c != c) = false := by simp
  have z3 : (ce != ce) = false := by simp
  go_wp2_with fail
  refine wp_region_quiet_below (by kernel_rfl) (by kernel_rfl) ?_
  repeat (go_big_quiet_step (first | exact V6.out _ _ | exact V7.out _ _ | exact V8.out _ _ | exact V9.out _ _))
  refine wpQuiet_nil ?_
  intro _ hw'
  obtain ⟨⟨dq, osq⟩, hw''⟩ := hw'
  subst hw''
  clear P0 P1 V6 V7 V8 V9 z1 z3 BX p0 p1 q0 q1
  obtain ⟨w6, hw6⟩ : ∃ x, grow (redrawn w5 dq) osq = x := ⟨_, rfl⟩
  have hb : Below w5.heap.size w5 w6 := by rw [← hw6]; exact below_regrown w5 dq osq
  have HR3d := Lib.hid (HR3c.out.below hb)
  replace HX := Lib.hid (HX.out.later hb)
  have p0 := HX.out.p0
  have p1 := HX.out.p1
  have q0 := HX.out.q0
  have q1 := HX.out.q1
  rw [hw6]
  clear hw6 hb
  go_wp2_with fail
  clear p0 p1 q0 q1
  go_loopw [14, 94] (fun sp i wr => wr = w6 ∧ ∃ k : Nat, i = .int .i64 k ∧ k ≤ L.length ∧ sp = .bool (spk c (L.take k))) (fun _ i _ => L.length - (intOf i).toNat)
  case atStart => exact ⟨rfl, 0, rfl, Nat.zero_le _, by rw [List.take_zero, spk_nil]; rfl⟩
  case round =>
    obtain ⟨rfl, k, rfl, hk, rfl⟩ := hrel
    by_cases hlt : k < L.length
    · rcases HR3d.out with h0 | ⟨b, off, rfl, hb, hp⟩
      · subst h0; exact absurd hlt (by simp)
      obtain ⟨x, hx⟩ : ∃ x, L[k]? = some x := ⟨_, List.getElem?_eq_getElem hlt⟩
      have d0 : wr.cell? ⟨b, off + k, none⟩ = some (.int .i64 x) := by rw [List.getElem?_eq_getElem hlt] at hx; cases hx; exact hp k hlt
      have HB := Lib.hid (spk_next (c := c) hx)
      have HLT := Lib.hid hlt
      have hk1 : (k : Int) < (L.length : Int) := by omega
      have hk2 : (k : Int) + 1 ≤ 10 := by have := HCL.out; omega
      have hk0 : (0 : Int) ≤ (k : Int) := by omega
      clear hx hp
      cases hb2 : spk c (L.take k) with
      | true =>
        rw [hb2] at HB
        clear hb2
        go_wp2_with fail
        exact ⟨⟨by trivial, k + 1, by go_num, HLT.out, by rw [HB.out]; rfl⟩, by simp [intOf]; have := HLT.out; omega⟩
      | false =>
        rw [hb2] at HB
        clear hb2
        go_wp2_with fail
        exact ⟨⟨by trivial, k + 1, by go_num, HLT.out, by rw [HB.out]; rfl⟩, by simp [intOf]; have := HLT.out; omega⟩
    · obtain rfl : k = L.length := by omega
      rw [List.take_length]
      have hsp : spk c L = true := HCH.out.2.1
      rw [hsp]
      have p0 := HX.out.p0
      have p1 := HX.out.p1
      have q0 := HX.out.q0
      have q1 := HX.out.q1
      by_cases hnm : n = m
      · subst hnm
        have hcn : n = c := (HCH.out.2.2 rfl).symm
        subst hcn
        have z1 : (n != n) = false := by simp
        clear hsp HCH hlt hk
        go_wp2_with (first
          | (go_at_call 22; refine (C7.out _ HX.out.below).mono ?_; rintro e w7 ⟨rfl, hb⟩; replace HX := Lib.hid (HX.out.later hb); clear hb)
          | (go_at_call 24; refine (PA.out _ HX.out.below).mono ?_; rintro e w8 ⟨ao8, cap8, rfl, _, hrow, hb⟩; replace HX := Lib.hid (HX.out.later hb); have HR8 := Lib.hid (fun o => hrow.below ((Below.refl _ _).alloc (Nat.le_refl _) o)); have HX9 := Lib.hid (fun o => HX.out.later ((Below.refl _ _).alloc (Nat.le_refl _) o)); clear hb hrow p0 p1 q0 q1; have p0 := (fun o => (HX9.out o).p0); have p1 := (fun o => (HX9.out o).p1))
          | (go_at_call 25; refine (sameC_eq n l ao8 a1 cap8 c1 _ (HR8.out _) (HR1.out.below (HX9.out _).below) (by have := HL50.out; omega)).mono ?_; rintro e w10 ⟨rfl, hb⟩; have HX10 := Lib.hid ((HX9.out _).later hb); clear hb)
          | (go_at_call 7; refine (AW.out _ HX10.out.below).mono ?_; rintro e w11 ⟨rfl, hb⟩; have HX11 := Lib.hid (HX10.out.later hb); clear hb))
        go_ret
        exact ⟨rfl, HX11.out.below⟩

      · have g1 : (n == m) = false := beq_false_of_ne hnm
        clear hsp HCH hlt hk
        go_wp2_with (first
          | (go_at_call 22; refine (C7.out _ HX.out.below).mono ?_; rintro e w7 ⟨rfl, hb⟩; replace HX := Lib.hid (HX.out.later hb); clear hb)
          | (go_at_call 24; refine (PA.out _ HX.out.below).mono ?_; rintro e w8 ⟨ao8, cap8, rfl, _, hrow, hb⟩; replace HX := Lib.hid (HX.out.later hb); have HR8 := Lib.hid (fun o => hrow.below ((Below.refl _ _).alloc (Nat.le_refl _) o)); have HX9 := Lib.hid (fun o => HX.out.later ((Below.refl _ _).alloc (Nat.le_refl _) o)); clear hb hrow p0 p1 q0 q1; have p0 := (fun o => (HX9.out o).p0); have p1 := (fun o => (HX9.out o).p1))
          | (go_at_call 25; refine (sameC_eq n l ao8 a1 cap8 c1 _ (HR8.out _) (HR1.out.below (HX9.out _).below) (by have := HL50.out; omega)).mono ?_; rintro e w10 ⟨rfl, hb⟩; have HX10 := Lib.hid ((HX9.out _).later hb); clear hb)
          | (go_at_call 7; refine (AW.out _ HX10.out.below).mono ?_; rintro e w11 ⟨rfl, hb⟩; have HX11 := Lib.hid (HX10.out.later hb); clear hb))
        go_ret
        exact ⟨rfl, HX11.out.below⟩

end Go.Proofs.YtnebjdjebnphnaaDoor
