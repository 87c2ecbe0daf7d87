/- What both Agree leave; the contract of the reference's Agree where it refuses. -/
import Derived.Test.YtpncdcncfinohaaDoorX
namespace Go.Proofs.YtpncdcncfinohaaDoor
open Go.RowKit Go.Sort Go.BigFrame

/-- Which way Agree goes: 0: a row is no set, 1: the route does not fit, 2: what is agreed clashes, 3: it agrees. -/
noncomputable def agC (c s : List PolD) : Nat :=
  if okS c = true ∧ okS s = true then (if valOf s 11 < valOf c 11 then 1 else (if clTo (agL c s 6) 7 = [] then 3 else 2)) else 0
/-- The policies with which a call is made. -/
noncomputable def agS (c s : List PolD) : List PolD := if agC c s = 3 then keptTo (agL c s 6) 6 else []
/-- The kind that does not fit. -/
noncomputable def agK (c s : List PolD) : Int := if agC c s = 1 then 11 else if agC c s = 2 then ((clTo (agL c s 6) 7).headD (0, 0)).1 else 0
/-- The error. -/
noncomputable def agE (c s : List PolD) : Int := if agC c s = 0 then 1 else if agC c s = 3 then 0 else 9

/-- What both Agree leave. -/
def AgreePost (w : World) (c s : List PolD) (e : Ending) (w' : World) : Prop :=
  ∃ ao cap, e = .returned (.tuple #[.slice ao (agS c s).length cap, .int .i64 (agK c s), .int .i64 (agE c s)]) ∧ RowAt w' ao (agS c s) ∧ Below w.heap.size w w'

theorem agreePost_bad {w w' : World} {c s : List PolD} {e : Ending} (h : ¬ (okS c = true ∧ okS s = true)) (he : e = .returned (.tuple #[.slice none 0 0, .int .i64 0, .int .i64 1])) (hb : Below w.heap.size w w') : AgreePost w c s e w' := by
  have h0 : agC c s = 0 := by unfold agC; rw [if_neg h]
  have h1 : agS c s = [] := by unfold agS; rw [if_neg (by omega)]
  have h2 : agK c s = 0 := by unfold agK; rw [if_neg (by omega), if_neg (by omega)]
  have h3 : agE c s = 1 := by unfold agE; rw [if_pos h0]
  unfold AgreePost
  rw [h1, h2, h3]
  exact ⟨none, 0, he, .inl rfl, hb⟩
theorem agreePost_route {w w' : World} {c s : List PolD} {e : Ending} (k1 : okS c = true) (k2 : okS s = true) (k3 : valOf s 11 < valOf c 11) (he : e = .returned (.tuple #[.slice none 0 0, .int .i64 11, .int .i64 9])) (hb : Below w.heap.size w w') : AgreePost w c s e w' := by
  have h0 : agC c s = 1 := by unfold agC; rw [if_pos ⟨k1, k2⟩, if_pos k3]
  have h1 : agS c s = [] := by unfold agS; rw [if_neg (by omega)]
  have h2 : agK c s = 11 := by unfold agK; rw [if_pos h0]
  have h3 : agE c s = 9 := by unfold agE; rw [if_neg (by omega), if_neg (by omega)]
  unfold AgreePost
  rw [h1, h2, h3]
  exact ⟨none, 0, he, .inl rfl, hb⟩
theorem agreePost_clash {w w' : World} {c s : List PolD} {e : Ending} {p : Int × Int} {rest : List (Int × Int)} (k1 : okS c = true) (k2 : okS s = true) (k3 : ¬ valOf s 11 < valOf c 11) (hc : clTo (agL c s 6) 7 = p :: rest) (he : e = .returned (.tuple #[.slice none 0 0, .int .i64 p.1, .int .i64 9])) (hb : Below w.heap.size w w') : AgreePost w c s e w' := by
  have h0 : agC c s = 2 := by unfold agC; rw [if_pos ⟨k1, k2⟩, if_neg k3, if_neg (by rw [hc]; exact List.cons_ne_nil _ _)]
  have h1 : agS c s = [] := by unfold agS; rw [if_neg (by omega)]
  have h2 : agK c s = p.1 := by unfold agK; rw [if_neg (by omega), if_pos h0, hc]; rfl
  have h3 : agE c s = 9 := by unfold agE; rw [if_neg (by omega), if_neg (by omega)]
  unfold AgreePost
  rw [h1, h2, h3]
  exact ⟨none, 0, he, .inl rfl, hb⟩
theorem agreePost_go {w w' : World} {c s : List PolD} {e : Ending} {sv : Value} {base : Nat} (k1 : okS c = true) (k2 : okS s = true) (k3 : ¬ valOf s 11 < valOf c 11) (hc : clTo (agL c s 6) 7 = []) (he : e = .returned (.tuple #[sv, .int .i64 0, .int .i64 0])) (ho : w'.ownsRow base 46 2 sv (keptTo (agL c s 6) 6).length (polCells (keptTo (agL c s 6) 6))) (hb : Below w.heap.size w w') : AgreePost w c s e w' := by
  have h0 : agC c s = 3 := by unfold agC; rw [if_pos ⟨k1, k2⟩, if_neg k3, if_pos hc]
  have h1 : agS c s = keptTo (agL c s 6) 6 := by unfold agS; rw [if_pos h0]
  have h2 : agK c s = 0 := by unfold agK; rw [if_neg (by omega), if_neg (by omega)]
  have h3 : agE c s = 0 := by unfold agE; rw [if_neg (by omega), if_pos h0]
  obtain ⟨ao, cap, rfl, hr⟩ := row_of_own ho
  unfold AgreePost
  rw [h1, h2, h3]
  exact ⟨ao, cap, he, hr, hb⟩

/-- policy.Agree, for all rows. -/
theorem agree_all (ao1 ao2 : Option Addr) (cap1 cap2 : Nat) (c s : List PolD) (w : World) (hS : SortsAt w) (h1 : RowAt w ao1 c) (h2 : RowAt w ao2 s) (hl1 : c.length ≤ 1000000) (hl2 : s.length ≤ 1000000) :
    Calls Tryd.prog 17 #[.slice ao1 c.length cap1, .slice ao2 s.length cap2] w (AgreePost w c s) := by
  cases k1 : okS c
  · exact (agree_bad1 ao1 ao2 cap1 cap2 c s w hS h1 (by omega) k1).mono fun e w' ⟨he, hb⟩ => agreePost_bad (by rw [k1]; intro h; cases h.1) he hb
  · cases k2 : okS s
    · exact (agree_bad2 ao1 ao2 cap1 cap2 c s w hS h1 h2 (by omega) (by omega) k1 k2).mono fun e w' ⟨he, hb⟩ => agreePost_bad (by rw [k2]; intro h; cases h.2) he hb
    · by_cases k3 : valOf s 11 < valOf c 11
      · exact (agree_route ao1 ao2 cap1 cap2 c s w hS h1 h2 (by omega) (by omega) k1 k2 k3).mono fun e w' ⟨he, hb⟩ => agreePost_route k1 k2 k3 he hb
      · cases hc : clTo (agL c s 6) 7 with
        | nil => exact (agree_go ao1 ao2 cap1 cap2 c s w hS h1 h2 (by omega) (by omega) k1 k2 k3 (kept_okS k1 k2) (by rw [clTo_kept]; exact hc)).mono fun e w' ⟨sv, he, ho, hb⟩ => agreePost_go k1 k2 k3 hc he ho hb
        | cons p rest => exact (agree_clash ao1 ao2 cap1 cap2 c s w hS h1 h2 (by omega) (by omega) k1 k2 k3 (kept_okS k1 k2) p rest (by rw [clTo_kept]; exact hc) (clTo_first hc)).mono fun e w' ⟨he, hb⟩ => agreePost_clash k1 k2 k3 hc he hb

set_option maxRecDepth 100000 in
set_option maxHeartbeats 1000000 in
theorem ragree_bad1 (ao1 ao2 : Option Addr) (cap1 cap2 : Nat) (c s : List PolD) (w : World) (hS : SortsAt w) (h1 : RowAt w ao1 c) (hl1 : c.length ≤ 9223372036854775807) (k1 : okS c = false) :
    Calls Tryd.prog 18 #[.slice ao1 c.length cap1, .slice ao2 s.length cap2] w fun e w' => e = .returned (.tuple #[.slice none 0 0, .int .i64 0, .int .i64 1]) ∧ Below w.heap.size w w' := by
  have VC := Lib.hid (rvalidSet_any ao1 cap1 c w hS h1 hl1)
  rw [k1] at VC
  clear hS h1 hl1 k1
  go_enter Tryd.func18, Tryd.ntmps18
  go_wp2_with (go_at_call 21; refine VC.out.mono ?_; rintro e w1 ⟨rfl, hb1⟩; have B1 := Lib.hid hb1; clear hb1)
  go_ret3
  exact ⟨rfl, B1.out⟩

set_option maxRecDepth 100000 in
set_option maxHeartbeats 1000000 in
theorem ragree_bad2 (ao1 ao2 : Option Addr) (cap1 cap2 : Nat) (c s : List PolD) (w : World) (hS : SortsAt w) (h1 : RowAt w ao1 c) (h2 : RowAt w ao2 s) (hl1 : c.length ≤ 9223372036854775807) (hl2 : s.length ≤ 9223372036854775807) (k1 : okS c = true) (k2 : okS s = false) :
    Calls Tryd.prog 18 #[.slice ao1 c.length cap1, .slice ao2 s.length cap2] w fun e w' => e = .returned (.tuple #[.slice none 0 0, .int .i64 0, .int .i64 1]) ∧ Below w.heap.size w w' := by
  have VC := Lib.hid (rvalidSet_any ao1 cap1 c w hS h1 hl1)
  have VS := Lib.hid fun wx (hx : Below w.heap.size w wx) => rvalidSet_any ao2 cap2 s wx (hS.below hx hS.pos) (h2.below hx) hl2
  rw [k1] at VC
  rw [k2] at VS
  clear hS h1 hl1 k1 h2 hl2 k2
  go_enter Tryd.func18, Tryd.ntmps18
  go_wp2_with (first | (go_at_call 21; (fail_if_success (have := B1)); refine VC.out.mono ?_; rintro e w1 ⟨rfl, hb1⟩; have B1 := Lib.hid hb1; clear hb1) | (go_at_call 21; refine (VS.out _ B1.out).mono ?_; rintro e w2 ⟨rfl, hb2⟩; have B2 := Lib.hid (B1.out.trans (hb2.mono B1.out.size)); clear hb2))
  go_ret3
  exact ⟨rfl, B2.out⟩

/-- The row of the calls' policies: what part leaves, as the later calls take it. -/
theorem part_row (ao : Option Addr) (cap : Nat) (l : List PolD) (w : World) (h : RowAt w ao l) (hl : l.length ≤ 1000000) :
    Calls Tryd.prog 36 #[.slice ao l.length cap, .int .i64 8, .int .i64 13] w fun e w' => ∃ ao' cap', e = .returned (.slice ao' (partTo 8 13 l l.length).length cap') ∧ RowAt w' ao' (partTo 8 13 l l.length) ∧ Below w.heap.size w w' :=
  (part_any 8 13 ao cap l w h hl).mono fun e w' ⟨sv, he, hi⟩ => by
    obtain ⟨ao', cap', rfl, hr⟩ := row_of_own hi.own
    exact ⟨ao', cap', he, hr, hi.below⟩
theorem value_part {l C : List PolD} (hC : partTo 8 13 l l.length = C) (hl : l.length ≤ 1000000) (ao : Option Addr) (cap : Nat) (q : Int) (w : World) (h : RowAt w ao C) (hq : betw 8 13 q = true) :
    Calls Tryd.prog 30 #[.slice ao C.length cap, .int .i64 q] w fun e w' => e = .returned (.int .i64 (valOf l q)) ∧ Below w.heap.size w w' := by
  subst hC
  have := partTo_len 8 13 l l.length
  rw [← valOf_part hq]
  exact value_any ao cap _ q w h (by omega)
theorem has_part {l C : List PolD} (hC : partTo 8 13 l l.length = C) (hl : l.length ≤ 1000000) (ao : Option Addr) (cap : Nat) (q : Int) (w : World) (h : RowAt w ao C) (hq : betw 8 13 q = true) :
    Calls Tryd.prog 37 #[.slice ao C.length cap, .int .i64 q] w fun e w' => e = .returned (.bool (hasOf l q)) ∧ Below w.heap.size w w' := by
  subst hC
  have := partTo_len 8 13 l l.length
  rw [← hasOf_part hq]
  exact has_any ao cap _ q w h (by omega)

/-- Two rows in a later world. -/
structure TwoR (w wx : World) (a : Option Addr) (C : List PolD) (b : Option Addr) (S : List PolD) : Prop where
  below : Below w.heap.size w wx
  r1 : RowAt wx a C
  r2 : RowAt wx b S
theorem TwoR.later {w wr wx : World} {a b : Option Addr} {C S : List PolD} (h : TwoR w wr a C b S) (hb : Below wr.heap.size wr wx) : TwoR w wx a C b S :=
  ⟨h.below.trans (hb.mono h.below.size), h.r1.below hb, h.r2.below hb⟩

set_option maxRecDepth 100000 in
set_option maxHeartbeats 1000000 in
theorem ragree_route (ao1 ao2 : Option Addr) (cap1 cap2 : Nat) (c s : List PolD) (w : World) (hS : SortsAt w) (h1 : RowAt w ao1 c) (h2 : RowAt w ao2 s) (hl1 : c.length ≤ 1000000) (hl2 : s.length ≤ 1000000) (k1 : okS c = true) (k2 : okS s = true) (k3 : valOf s 11 < valOf c 11) :
    Calls Tryd.prog 18 #[.slice ao1 c.length cap1, .slice ao2 s.length cap2] w fun e w' => e = .returned (.tuple #[.slice none 0 0, .int .i64 11, .int .i64 9]) ∧ Below w.heap.size w w' := by
  have VC := Lib.hid (rvalidSet_any ao1 cap1 c w hS h1 (by omega))
  have VS := Lib.hid fun wx (hx : Below w.heap.size w wx) => rvalidSet_any ao2 cap2 s wx (hS.below hx hS.pos) (h2.below hx) (by omega)
  rw [k1] at VC
  rw [k2] at VS
  have PC := Lib.hid fun wx (hx : Below w.heap.size w wx) => part_row ao1 cap1 c wx (h1.below hx) hl1
  have PS := Lib.hid fun wx (hx : Below w.heap.size w wx) => part_row ao2 cap2 s wx (h2.below hx) hl2
  obtain ⟨C, hC⟩ : ∃ C, partTo 8 13 c c.length = C := ⟨_, rfl⟩
  obtain ⟨S, hSS⟩ : ∃ S, partTo 8 13 s s.length = S := ⟨_, rfl⟩
  have GC := Lib.hid fun ao cap wx h => value_part hC hl1 ao cap 11 wx h (by decide)
  have GS := Lib.hid fun ao cap wx h => value_part hSS hl2 ao cap 11 wx h (by decide)
  rw [hC] at PC
  rw [hSS] at PS
  obtain ⟨a, ha⟩ : ∃ a, valOf c 11 = a := ⟨_, rfl⟩
  obtain ⟨b, hb⟩ : ∃ b, valOf s 11 = b := ⟨_, rfl⟩
  rw [ha] at GC k3
  rw [hb] at GS k3
  have e1 : decide (b < a) = true := by simpa using k3
  clear hS h1 hl1 k1 h2 hl2 k2 k3 ha hb hC hSS
  go_enter Tryd.func18, Tryd.ntmps18
  go_wp2_with (first | (go_at_call 21; (fail_if_success (have := B1)); refine VC.out.mono ?_; rintro e w1 ⟨rfl, hb1⟩; have B1 := Lib.hid hb1; clear hb1) | (go_at_call 21; refine (VS.out _ B1.out).mono ?_; rintro e w2 ⟨rfl, hb2⟩; have B2 := Lib.hid (B1.out.trans (hb2.mono B1.out.size)); clear hb2) | (go_at_call 36; (fail_if_success (have := B3)); refine (PC.out _ B2.out).mono ?_; rintro e w3 ⟨ao3, cap3, rfl, hr3, hb3⟩; have R3 := Lib.hid hr3; have B3 := Lib.hid (B2.out.trans (hb3.mono B2.out.size)); clear hb3 hr3) | (go_at_call 36; refine (PS.out _ B3.out).mono ?_; rintro e w4 ⟨ao4, cap4, rfl, hr4, hb4⟩; have T4 : Hid (TwoR w w4 ao3 C ao4 S) := Lib.hid ⟨B3.out.trans (hb4.mono B3.out.size), R3.out.below hb4, hr4⟩; clear hb4 hr4) | (go_at_call 30; (fail_if_success (have := T5)); refine (GC.out _ _ _ T4.out.r1).mono ?_; rintro e w5 ⟨rfl, hb5⟩; have T5 := Lib.hid (T4.out.later hb5); clear hb5) | (go_at_call 30; refine (GS.out _ _ _ T5.out.r2).mono ?_; rintro e w6 ⟨rfl, hb6⟩; have T6 := Lib.hid (T5.out.later hb6); clear hb6))
  go_ret3
  exact ⟨rfl, T6.out.below⟩

end Go.Proofs.YtpncdcncfinohaaDoor
