/- The contracts of Join and of both packages' Again. -/
import Derived.Test.YtclhnpbjmefpeaaS
namespace Go.Proofs.Ytclhnpbjmefpeaa
open Go.RowKit Go.BigFrame

set_option maxRecDepth 100000 in
set_option maxHeartbeats 2000000 in
theorem joins_any (ao : Option Addr) (cap : Nat) (l : List Pc) (w : World) (h : RowAt w ao l) :
    Calls Try.prog 12 #[.slice ao l.length cap] w (JnPost w l) := by
  have AV := Lib.hid (allValid_any ao cap l w h)
  cases hok : okL l
  · have HE := Lib.hid (jnE_bad hok)
    rw [hok] at AV
    clear h hok
    go_enter Try.func12, Try.ntmps12
    go_wp2_with (go_at_call 30; refine AV.out.mono ?_; rintro e w1 ⟨rfl, hb1⟩; have B1 := Lib.hid hb1; clear hb1)
    go_ret3
    exact JnPost.bad HE.out (by decide) rfl B1.out
  · have HPOST : Hid (∀ e w', JoinPost w l e w' → JnPost w l e w') := Lib.hid fun e w' h => by
      refine ⟨?_, h.2⟩
      rw [jnI_ok hok, jnB_ok hok, jnE_ok hok]
      exact h.1
    have JA := Lib.hid fun wx (hx : Below w.heap.size w wx) => join_any ao cap l wx (h.below hx) (okL_len hok) (okL_all hok)
    rw [hok] at AV
    obtain ⟨r, hr⟩ : ∃ r, joinI l = r := ⟨_, rfl⟩
    obtain ⟨s, hs⟩ : ∃ s, joinB l = s := ⟨_, rfl⟩
    obtain ⟨t, ht⟩ : ∃ t, joinE l = t := ⟨_, rfl⟩
    have HRST : Hid (joinI l = r ∧ joinB l = s ∧ joinE l = t) := Lib.hid ⟨hr, hs, ht⟩
    clear h hok hr hs ht
    go_enter Try.func12, Try.ntmps12
    go_wp2_with (first | (go_at_call 30; refine AV.out.mono ?_; rintro e w1 ⟨rfl, hb1⟩; have B1 := Lib.hid hb1; clear hb1) | (go_at_call 31; refine (JA.out _ B1.out).mono ?_; rintro e w2 ⟨he, hb2⟩; rw [HRST.out.1, HRST.out.2.1, HRST.out.2.2] at he; subst he; have B2 := Lib.hid (B1.out.trans (hb2.mono B1.out.size)); clear hb2))
    go_ret3
    exact HPOST.out _ _ ⟨by rw [HRST.out.1, HRST.out.2.1, HRST.out.2.2]; rfl, B2.out⟩

/-- What Again returns, and its error. -/
def agL (l : List Pc) (n : Int) : List Pc := if okL l = true then (if sizeB n = true then (if joinE l = 0 then cutL (idOf l) (catB l) n else []) else []) else []
def agE (l : List Pc) (n : Int) : Int := if okL l = true then (if sizeB n = true then (if joinE l = 0 then cutE (idOf l) (catB l) n else joinE l) else 7) else 1

set_option maxRecDepth 100000 in
set_option maxHeartbeats 2000000 in
theorem again_any (ao : Option Addr) (cap : Nat) (l : List Pc) (n : Int) (w : World) (h : RowAt w ao l) :
    Calls Try.prog 13 #[.slice ao l.length cap, .int .i64 n] w (RowPost w (agL l n) (agE l n)) := by
  have AV := Lib.hid (allValid_any ao cap l w h)
  have SA := Lib.hid fun wx => size_any n wx
  cases hok : okL l
  · have HL : Hid (agL l n = []) := Lib.hid (by unfold agL; rw [if_neg (by rw [hok]; decide)])
    have HE : Hid (agE l n = 1) := Lib.hid (by unfold agE; rw [if_neg (by rw [hok]; decide)])
    rw [hok] at AV
    rw [HL.out, HE.out]
    clear h hok
    go_enter Try.func13, Try.ntmps13
    go_wp2_with (go_at_call 30; refine AV.out.mono ?_; rintro e w1 ⟨rfl, hb1⟩; have B1 := Lib.hid hb1; clear hb1)
    go_ret2
    exact RowPost.nil rfl rfl B1.out
  cases hsz : sizeB n
  · have HL : Hid (agL l n = []) := Lib.hid (by unfold agL; rw [if_pos hok, if_neg (by rw [hsz]; decide)])
    have HE : Hid (agE l n = 7) := Lib.hid (by unfold agE; rw [if_pos hok, if_neg (by rw [hsz]; decide)])
    rw [hok] at AV
    rw [hsz] at SA
    rw [HL.out, HE.out]
    clear h hok hsz
    go_enter Try.func13, Try.ntmps13
    go_wp2_with (first | (go_at_call 30; refine AV.out.mono ?_; rintro e w1 ⟨rfl, hb1⟩; have B1 := Lib.hid hb1; clear hb1) | (go_at_call 22; refine (SA.out _).mono ?_; rintro e w2 ⟨rfl, rfl⟩))
    go_ret2
    exact RowPost.nil rfl rfl B1.out
  have JA := Lib.hid fun wx (hx : Below w.heap.size w wx) => join_any ao cap l wx (h.below hx) (okL_len hok) (okL_all hok)
  obtain ⟨r, hr⟩ : ∃ r, joinI l = r := ⟨_, rfl⟩
  obtain ⟨s, hs⟩ : ∃ s, joinB l = s := ⟨_, rfl⟩
  by_cases h0 : joinE l = 0
  · have HL : Hid (agL l n = cutL r s n) := Lib.hid (by unfold agL; rw [if_pos hok, if_pos hsz, if_pos h0, ← hr, ← hs, joinI, joinB, if_pos h0, if_pos h0])
    have HE : Hid (agE l n = cutE r s n) := Lib.hid (by unfold agE; rw [if_pos hok, if_pos hsz, if_pos h0, ← hr, ← hs, joinI, joinB, if_pos h0, if_pos h0])
    have HRST : Hid (joinI l = r ∧ joinB l = s ∧ joinE l = 0) := Lib.hid ⟨hr, hs, h0⟩
    have CA := Lib.hid fun wx => cut_any r s n wx
    rw [hok] at AV
    rw [hsz] at SA
    rw [HL.out, HE.out]
    clear h hok hsz hr hs h0
    go_enter Try.func13, Try.ntmps13
    go_wp2_with (first | (go_at_call 30; refine AV.out.mono ?_; rintro e w1 ⟨rfl, hb1⟩; have B1 := Lib.hid hb1; clear hb1) | (go_at_call 22; refine (SA.out _).mono ?_; rintro e w2 ⟨rfl, rfl⟩) | (go_at_call 31; refine (JA.out _ B1.out).mono ?_; rintro e w2 ⟨he, hb2⟩; rw [HRST.out.1, HRST.out.2.1, HRST.out.2.2] at he; subst he; have B2 := Lib.hid (B1.out.trans (hb2.mono B1.out.size)); clear hb2) | (go_at_call 7; refine (CA.out _).mono ?_; rintro e w3 ⟨d, hd, rfl, hdo, hb3⟩; have HD := Lib.hid (And.intro hd hdo); have B3 := Lib.hid (B2.out.trans (hb3.mono B2.out.size)); clear hd hdo hb3; obtain ⟨da, dl, dc⟩ := d; unfold SlD.v; simp only))
    go_ret2
    exact ⟨_, HD.out.1, rfl, HD.out.2, B3.out⟩
  · obtain ⟨t, ht⟩ : ∃ t, joinE l = t := ⟨_, rfl⟩
    rw [ht] at h0
    have HL : Hid (agL l n = []) := Lib.hid (by unfold agL; rw [if_pos hok, if_pos hsz, if_neg (by rw [ht]; exact h0)])
    have HE : Hid (agE l n = t) := Lib.hid (by unfold agE; rw [if_pos hok, if_pos hsz, if_neg (by rw [ht]; exact h0), ht])
    have HRST : Hid (joinI l = r ∧ joinB l = s ∧ joinE l = t) := Lib.hid ⟨hr, hs, ht⟩
    have e0 : decide (t = 0) = false := decide_eq_false h0
    rw [hok] at AV
    rw [hsz] at SA
    rw [HL.out, HE.out]
    clear h hok hsz hr hs ht
    go_enter Try.func13, Try.ntmps13
    go_wp2_with (first | (go_at_call 30; refine AV.out.mono ?_; rintro e w1 ⟨rfl, hb1⟩; have B1 := Lib.hid hb1; clear hb1) | (go_at_call 22; refine (SA.out _).mono ?_; rintro e w2 ⟨rfl, rfl⟩) | (go_at_call 31; refine (JA.out _ B1.out).mono ?_; rintro e w2 ⟨he, hb2⟩; rw [HRST.out.1, HRST.out.2.1, HRST.out.2.2] at he; subst he; have B2 := Lib.hid (B1.out.trans (hb2.mono B1.out.size)); clear hb2))
    go_ret2
    exact RowPost.nil rfl rfl B2.out

set_option maxRecDepth 100000 in
set_option maxHeartbeats 2000000 in
theorem ragain_any (ao : Option Addr) (cap : Nat) (l : List Pc) (n : Int) (w : World) (h : RowAt w ao l) (hl : l.length ≤ 9223372036854775806) :
    Calls Try.prog 18 #[.slice ao l.length cap, .int .i64 n] w (RowPost w (agL l n) (agE l n)) := by
  have AV := Lib.hid (rpieces_any ao cap l w h hl)
  have SA := Lib.hid fun wx => rsize_any n wx
  cases hok : okL l
  · have HL : Hid (agL l n = []) := Lib.hid (by unfold agL; rw [if_neg (by rw [hok]; decide)])
    have HE : Hid (agE l n = 1) := Lib.hid (by unfold agE; rw [if_neg (by rw [hok]; decide)])
    rw [hok] at AV
    rw [HL.out, HE.out]
    clear h hok hl
    go_enter Try.func18, Try.ntmps18
    go_wp2_with (go_at_call 33; refine AV.out.mono ?_; rintro e w1 ⟨rfl, hb1⟩; have B1 := Lib.hid hb1; clear hb1)
    go_ret2
    exact RowPost.nil rfl rfl B1.out
  cases hsz : sizeB n
  · have HL : Hid (agL l n = []) := Lib.hid (by unfold agL; rw [if_pos hok, if_neg (by rw [hsz]; decide)])
    have HE : Hid (agE l n = 7) := Lib.hid (by unfold agE; rw [if_pos hok, if_neg (by rw [hsz]; decide)])
    rw [hok] at AV
    rw [hsz] at SA
    rw [HL.out, HE.out]
    clear h hok hsz hl
    go_enter Try.func18, Try.ntmps18
    go_wp2_with (first | (go_at_call 33; refine AV.out.mono ?_; rintro e w1 ⟨rfl, hb1⟩; have B1 := Lib.hid hb1; clear hb1) | (go_at_call 26; refine (SA.out _).mono ?_; rintro e w2 ⟨rfl, rfl⟩))
    go_ret2
    exact RowPost.nil rfl rfl B1.out
  have JA : Hid (∀ wx, Below w.heap.size w wx → Calls Try.prog 17 #[.slice ao l.length cap] wx (JoinPost wx l)) := Lib.hid fun wx hx => (rjoin_any ao cap l wx (h.below hx) hl).mono fun e w' h9 => ⟨by rw [← jnI_ok hok, ← jnB_ok hok, ← jnE_ok hok]; exact h9.1, h9.2⟩
  obtain ⟨r, hr⟩ : ∃ r, joinI l = r := ⟨_, rfl⟩
  obtain ⟨s, hs⟩ : ∃ s, joinB l = s := ⟨_, rfl⟩
  by_cases h0 : joinE l = 0
  · have HL : Hid (agL l n = cutL r s n) := Lib.hid (by unfold agL; rw [if_pos hok, if_pos hsz, if_pos h0, ← hr, ← hs, joinI, joinB, if_pos h0, if_pos h0])
    have HE : Hid (agE l n = cutE r s n) := Lib.hid (by unfold agE; rw [if_pos hok, if_pos hsz, if_pos h0, ← hr, ← hs, joinI, joinB, if_pos h0, if_pos h0])
    have HRST : Hid (joinI l = r ∧ joinB l = s ∧ joinE l = 0) := Lib.hid ⟨hr, hs, h0⟩
    have CA := Lib.hid fun wx => rcut_any r s n wx
    rw [hok] at AV
    rw [hsz] at SA
    rw [HL.out, HE.out]
    clear h hok hsz hr hs h0 hl
    go_enter Try.func18, Try.ntmps18
    go_wp2_with (first | (go_at_call 33; refine AV.out.mono ?_; rintro e w1 ⟨rfl, hb1⟩; have B1 := Lib.hid hb1; clear hb1) | (go_at_call 26; refine (SA.out _).mono ?_; rintro e w2 ⟨rfl, rfl⟩) | (go_at_call 17; refine (JA.out _ B1.out).mono ?_; rintro e w2 ⟨he, hb2⟩; rw [HRST.out.1, HRST.out.2.1, HRST.out.2.2] at he; subst he; have B2 := Lib.hid (B1.out.trans (hb2.mono B1.out.size)); clear hb2) | (go_at_call 8; refine (CA.out _).mono ?_; rintro e w3 ⟨d, hd, rfl, hdo, hb3⟩; have HD := Lib.hid (And.intro hd hdo); have B3 := Lib.hid (B2.out.trans (hb3.mono B2.out.size)); clear hd hdo hb3; obtain ⟨da, dl, dc⟩ := d; unfold SlD.v; simp only))
    go_ret2
    exact ⟨_, HD.out.1, rfl, HD.out.2, B3.out⟩
  · obtain ⟨t, ht⟩ : ∃ t, joinE l = t := ⟨_, rfl⟩
    rw [ht] at h0
    have HL : Hid (agL l n = []) := Lib.hid (by unfold agL; rw [if_pos hok, if_pos hsz, if_neg (by rw [ht]; exact h0)])
    have HE : Hid (agE l n = t) := Lib.hid (by unfold agE; rw [if_pos hok, if_pos hsz, if_neg (by rw [ht]; exact h0), ht])
    have HRST : Hid (joinI l = r ∧ joinB l = s ∧ joinE l = t) := Lib.hid ⟨hr, hs, ht⟩
    have e0 : decide (t = 0) = false := decide_eq_false h0
    rw [hok] at AV
    rw [hsz] at SA
    rw [HL.out, HE.out]
    clear h hok hsz hr hs ht hl
    go_enter Try.func18, Try.ntmps18
    go_wp2_with (first | (go_at_call 33; refine AV.out.mono ?_; rintro e w1 ⟨rfl, hb1⟩; have B1 := Lib.hid hb1; clear hb1) | (go_at_call 26; refine (SA.out _).mono ?_; rintro e w2 ⟨rfl, rfl⟩) | (go_at_call 17; refine (JA.out _ B1.out).mono ?_; rintro e w2 ⟨he, hb2⟩; rw [HRST.out.1, HRST.out.2.1, HRST.out.2.2] at he; subst he; have B2 := Lib.hid (B1.out.trans (hb2.mono B1.out.size)); clear hb2))
    go_ret2
    exact RowPost.nil rfl rfl B2.out

end Go.Proofs.Ytclhnpbjmefpeaa
