/- The contracts of the law's same and of slices.Equal for whatever rows, of both Same, of policy.Plain, and of the reference's Over. -/
import Derived.Test.YtladjkkkhomngaaDoorTf
namespace Go.Proofs.YtladjkkkhomngaaDoor
set_option maxRecDepth 8000
open Go.RowKit Go.Sort Go.BigFrame

/-- Are two rows equal? -/
noncomputable def eqL (l m : List PolD) : Bool := @decide (l = m) (Classical.propDecidable _)
theorem eqL_true {l m : List PolD} (h : l = m) : eqL l m = true := @decide_eq_true _ (Classical.propDecidable _) h
theorem eqL_false {l m : List PolD} (h : l ≠ m) : eqL l m = false := @decide_eq_false _ (Classical.propDecidable _) h
theorem eqL_iff {l m : List PolD} : eqL l m = true ↔ l = m := ⟨fun h => @of_decide_eq_true _ (Classical.propDecidable _) h, eqL_true⟩
/-- The first n of two rows are equal. -/
def eqTo (l m : List PolD) (n : Nat) : Prop := ∀ i, i < n → ∀ (h : i < l.length) (h2 : i < m.length), l[i] = m[i]
theorem eqTo_all {l m : List PolD} (hl : l.length = m.length) (h : eqTo l m l.length) : l = m := List.ext_getElem hl fun i h1 h2 => h i h1 h1 h2
theorem PolD.ext' {p q : PolD} (h1 : p.k = q.k) (h2 : p.v = q.v) : p = q := by cases p; cases q; simp only at h1 h2; subst h1 h2; rfl

set_option maxRecDepth 100000 in
set_option maxHeartbeats 2000000 in
theorem eq13_any (ao1 ao2 : Option Addr) (cap1 cap2 : Nat) (l m : List PolD) (w : World) (h1 : RowAt w ao1 l) (h2 : RowAt w ao2 m) (hl1 : l.length ≤ 1000000) :
    Calls Tryd.prog 15 #[.slice ao1 l.length cap1, .slice ao2 m.length cap2] w fun e w' => e = .returned (.bool (eqL l m)) ∧ Below w.heap.size w w' := by
  have H1 := Lib.hid h1
  have H2 := Lib.hid h2
  have HL := Lib.hid hl1
  clear h1 h2
  by_cases hlen : l.length = m.length
  · have HLN := Lib.hid hlen
    rw [← hlen]
    clear hl1 hlen
    go_enter Tryd.func15, Tryd.ntmps15
    go_wp2_with fail
    go_loopw [13] (fun i wr => ∃ k : Nat, i = .int .i64 k ∧ k ≤ l.length ∧ eqTo l m k ∧ Below w.heap.size w wr) (fun i _ => l.length - (intOf i).toNat)
    case atStart => exact ⟨0, rfl, Nat.zero_le _, fun i h => absurd h (Nat.not_lt_zero i), Below.refl _ _⟩
    case round =>
      obtain ⟨k, rfl, hk, hq, hbel⟩ := hrel
      have HB := Lib.hid hbel
      have HQ := Lib.hid hq
      clear hbel hq
      by_cases hlt : k < l.length
      · have hlt2 : k < m.length := by have := HLN.out; omega
        rcases H1.out with h0 | ⟨b, off, rfl, hb, hp⟩
        · subst h0; exact absurd hlt (by simp)
        rcases H2.out with h0 | ⟨b', off', rfl, hb', hp'⟩
        · subst h0; exact absurd hlt2 (by simp)
        obtain ⟨c0, c1⟩ := (hp.below HB.out hb) k hlt
        obtain ⟨d0, d1⟩ := (hp'.below HB.out hb') k hlt2
        obtain ⟨k1, hk1⟩ : ∃ kk, l[k].k = kk := ⟨_, rfl⟩
        obtain ⟨v1, hv1⟩ : ∃ vv, l[k].v = vv := ⟨_, rfl⟩
        obtain ⟨k2, hk2⟩ : ∃ kk, m[k].k = kk := ⟨_, rfl⟩
        obtain ⟨v2, hv2⟩ : ∃ vv, m[k].v = vv := ⟨_, rfl⟩
        rw [hk1] at c0
        rw [hv1] at c1
        rw [hk2] at d0
        rw [hv2] at d1
        have HE := Lib.hid (show (k1 = k2 ∧ v1 = v2) ↔ l[k] = m[k] from ⟨fun h => PolD.ext' (by rw [hk1, hk2, h.1]) (by rw [hv1, hv2, h.2]), fun h => ⟨by rw [← hk1, ← hk2, h], by rw [← hv1, ← hv2, h]⟩⟩)
        clear hk1 hk2
        have gk1 : (k : Int) < (l.length : Int) := by omega
        have gk2 : (k : Int) + 1 ≤ 9223372036854775807 := by have := HL.out; omega
        have gk0 : (0 : Int) ≤ (k : Int) := by omega
        clear hv1 hv2 hp hp'
        by_cases q1 : k1 = k2
        · by_cases q2 : v1 = v2
          · have HN : Hid (eqTo l m (k + 1)) := Lib.hid (fun i hi h h2 => by
              by_cases e : i = k
              · subst e; exact HE.out.1 ⟨q1, q2⟩
              · exact HQ.out i (by omega) h h2)
            subst q1 q2
            go_wp2_with fail
            go_quiet (fail)
            go_wp2_with fail
            exact ⟨⟨k + 1, by go_num, hlt, HN.out, HB.out.trans ((below_drewN' _ _).mono HB.out.size)⟩, by simp [intOf]; omega⟩
          · have HF : Hid (eqL l m = false) := Lib.hid (eqL_false fun e => q2 (HE.out.2 (by simp only [e])).2)
            subst q1
            have e2 : (v1 == v2) = false := by simpa using q2
            clear q2
            go_wp2_with fail
            go_quiet (fail)
            go_wp2_with fail
            go_ret
            exact ⟨ret_bool HF.out.symm, HB.out.trans ((below_drewN' _ _).mono HB.out.size)⟩
        · have HF : Hid (eqL l m = false) := Lib.hid (eqL_false fun e => q1 (HE.out.2 (by simp only [e])).1)
          have e1 : (k1 == k2) = false := by simpa using q1
          clear q1
          go_wp2_with fail
          go_quiet (fail)
          go_wp2_with fail
          go_ret
          exact ⟨ret_bool HF.out.symm, HB.out.trans ((below_drewN' _ _).mono HB.out.size)⟩
      · obtain rfl : k = l.length := by omega
        have HF : Hid (eqL l m = true) := Lib.hid (eqL_true (eqTo_all HLN.out HQ.out))
        go_wp2_with fail
        go_ret
        exact ⟨ret_bool HF.out.symm, HB.out⟩
  · have HF : Hid (eqL l m = false) := Lib.hid (eqL_false fun e => hlen (by rw [e]))
    have e0 : (l.length != m.length) = true := by simpa using hlen
    have e00 : ((l.length : Int) != (m.length : Int)) = true := by simp; omega
    clear hlen
    go_enter Tryd.func15, Tryd.ntmps15
    go_wp2_with fail
    go_ret
    exact ⟨ret_bool HF.out.symm, Below.refl _ _⟩

/-- What policy.Plain returns, and its error. -/
noncomputable def plL (l : List PolD) : List PolD := if okS l = true then plainL l else []
noncomputable def plE (l : List PolD) : Int := if okS l = true then 0 else 1

theorem okS_kind {l : List PolD} (h : okS l = true) : ∀ i (hi : i < l.length), isK l[i].k = true := fun i hi => by
  have := okS_val h _ (List.getElem_mem hi)
  simp only [okP, Bool.and_eq_true] at this
  exact this.1.1
/-- kept, with what it makes. -/
theorem kept_row (d : SlD) (w : World) (hS : SortsAt w) (h : d.Ok w) (hl : d.l.length ≤ 1000000) (hok : okS d.l = true) :
    Calls Tryd.prog 64 #[.slice d.a d.l.length d.c, .func (.func 52) #[] #[]] w fun e w' => ∃ sv, e = .returned sv ∧ w'.ownsRow w.heap.size 24 2 sv (plainL d.l).length (polCells (plainL d.l)) ∧ Below w.heap.size w w' :=
  (kept_any d.a d.c d.l w hS h.row hl (okS_kind hok)).mono fun e w' ⟨sv, he, hi⟩ => ⟨sv, he, by have := hi.own; rw [keptTo_all] at this; exact this, hi.below⟩

set_option maxRecDepth 100000 in
set_option maxHeartbeats 1000000 in
theorem filtered_any (d : SlD) (w : World) (hS : SortsAt w) (h : d.Ok w) (hl : d.l.length ≤ 1000000) :
    Calls Tryd.prog 47 #[.slice d.a d.l.length d.c, .func (.func 52) #[] #[]] w (RowPost w (plL d.l) (plE d.l)) := by
  have VS := Lib.hid (validSet_any d.a d.c d.l w hS h.row (by omega))
  cases hok : okS d.l
  · rw [hok] at VS
    have HO := Lib.hid hok
    clear hS h hl hok
    go_enter Tryd.func47, Tryd.ntmps47
    go_wp2_with (go_at_call 13; refine VS.out.mono ?_; rintro e w1 ⟨rfl, hb1⟩; have B1 := Lib.hid hb1; clear hb1)
    go_ret2
    exact RowPost.nil (by unfold plL; rw [if_neg (by rw [HO.out]; decide)]) (by unfold plE; rw [if_neg (by rw [HO.out]; decide)]; rfl) B1.out
  · rw [hok] at VS
    have HO := Lib.hid hok
    have KR := Lib.hid fun wx (hx : Below w.heap.size w wx) => kept_row d wx (hS.below hx hS.pos) (h.below hx) hl hok
    clear hS h hl hok
    go_enter Tryd.func47, Tryd.ntmps47
    go_wp2_with (first | (go_at_call 13; refine VS.out.mono ?_; rintro e w1 ⟨rfl, hb1⟩; have B1 := Lib.hid hb1; clear hb1) | (go_at_call 64; refine (KR.out _ B1.out).mono ?_; rintro e w2 ⟨sv, rfl, ho2, hb2⟩; have O2 := Lib.hid ho2; have B2 := Lib.hid (B1.out.trans (hb2.mono B1.out.size)); clear ho2 hb2))
    go_ret2
    exact RowPost.own (l := plL d.l) (by rw [show plL d.l = plainL d.l by unfold plL; rw [if_pos HO.out]]; exact O2.out) (by unfold plE; rw [if_pos HO.out]; rfl) B2.out

set_option maxRecDepth 100000 in
set_option maxHeartbeats 1000000 in
theorem plain_any (d : SlD) (w : World) (hS : SortsAt w) (h : d.Ok w) (hl : d.l.length ≤ 1000000) :
    Calls Tryd.prog 25 #[.slice d.a d.l.length d.c] w (RowPost w (plL d.l) (plE d.l)) := by
  have FI := Lib.hid (filtered_any d w hS h hl)
  obtain ⟨L, hL⟩ : ∃ L, plL d.l = L := ⟨_, rfl⟩
  obtain ⟨er, her⟩ : ∃ er, plE d.l = er := ⟨_, rfl⟩
  rw [hL, her] at FI
  rw [hL, her]
  clear hS h hl hL her
  go_enter Tryd.func25, Tryd.ntmps25
  go_wp2_with (go_at_call 47; refine FI.out.mono ?_; rintro e w1 ⟨d, hd, rfl, hok, hb1⟩; have HD := Lib.hid hd; have HO := Lib.hid hok; have B1 := Lib.hid hb1; clear hd hok hb1; unfold SlD.v)
  go_ret2
  exact ⟨d, HD.out, rfl, HO.out, B1.out⟩

/-- What Over returns, and its error. -/
noncomputable def ovL (s o : List PolD) : List PolD := if okS s = true ∧ okS o = true then mrg s o else []
noncomputable def ovE (s o : List PolD) : Int := if okS s = true ∧ okS o = true then 0 else 1

/-! ### Same -/

/-- What both Same return. -/
noncomputable def smB (a b : List PolD) : Bool := if okS a = true ∧ okS b = true then eqL (plainL a) (plainL b) else false
noncomputable def smE (a b : List PolD) : Int := if okS a = true ∧ okS b = true then 0 else 1
def SamePost (w : World) (a b : List PolD) (e : Ending) (w' : World) : Prop := e = .returned (.tuple #[.bool (smB a b), .int .i64 (smE a b)]) ∧ Below w.heap.size w w'
theorem SamePost.bad {w w' : World} {a b : List PolD} {e : Ending} (h : ¬ (okS a = true ∧ okS b = true)) (he : e = .returned (.tuple #[.bool false, .int .i64 1])) (hb : Below w.heap.size w w') : SamePost w a b e w' := by
  refine ⟨?_, hb⟩
  rw [he, smB, smE, if_neg h, if_neg h]
theorem SamePost.good {w w' : World} {a b : List PolD} {e : Ending} (h : okS a = true ∧ okS b = true) (he : e = .returned (.tuple #[.bool (eqL (plainL a) (plainL b)), .int .i64 0])) (hb : Below w.heap.size w w') : SamePost w a b e w' := by
  refine ⟨?_, hb⟩
  rw [he, smB, smE, if_pos h, if_pos h]

set_option maxRecDepth 100000 in
set_option maxHeartbeats 2000000 in
theorem rover_any (d1 d2 : SlD) (w : World) (hS : SortsAt w) (h1 : d1.Ok w) (h2 : d2.Ok w) (hl1 : d1.l.length ≤ 1000) (hl2 : d2.l.length ≤ 1000) :
    Calls Tryd.prog 46 #[.slice d1.a d1.l.length d1.c, .slice d2.a d2.l.length d2.c] w (RowPost w (ovL d1.l d2.l) (ovE d1.l d2.l)) := by
  have V1 := Lib.hid (rvalidSet_any d1.a d1.c d1.l w hS h1.row (by omega))
  have V2 := Lib.hid fun wx (hx : Below w.heap.size w wx) => rvalidSet_any d2.a d2.c d2.l wx (hS.below hx hS.pos) (h2.row.below hx) (by omega)
  cases k1 : okS d1.l
  · rw [k1] at V1
    have K1 := Lib.hid k1
    clear hS h1 h2 hl1 hl2 k1
    go_enter Tryd.func46, Tryd.ntmps46
    go_wp2_with (go_at_call 14; refine V1.out.mono ?_; rintro e w1 ⟨rfl, hb1⟩; have B1 := Lib.hid hb1; clear hb1)
    go_ret2
    exact RowPost.nil (by unfold ovL; rw [if_neg (by rw [K1.out]; simp)]) (by unfold ovE; rw [if_neg (by rw [K1.out]; simp)]; rfl) B1.out
  · rw [k1] at V1
    cases k2 : okS d2.l
    · rw [k2] at V2
      have K2 := Lib.hid k2
      clear hS h1 h2 hl1 hl2 k1 k2
      go_enter Tryd.func46, Tryd.ntmps46
      go_wp2_with (first | (go_at_call 14; (fail_if_success (have := B1)); refine V1.out.mono ?_; rintro e w1 ⟨rfl, hb1⟩; have B1 := Lib.hid hb1; clear hb1) | (go_at_call 14; refine (V2.out _ B1.out).mono ?_; rintro e w2 ⟨rfl, hb2⟩; have B2 := Lib.hid (B1.out.trans (hb2.mono B1.out.size)); clear hb2))
      go_ret2
      exact RowPost.nil (by unfold ovL; rw [if_neg (by rw [K2.out]; simp)]) (by unfold ovE; rw [if_neg (by rw [K2.out]; simp)]; rfl) B2.out
    · rw [k2] at V2
      have K12 := Lib.hid (show okS d1.l = true ∧ okS d2.l = true from ⟨k1, k2⟩)
      have GA := Lib.hid fun (sv : Value) wx (hx : AllI w wx ([] ++ d1.l ++ d2.l) sv) => show Calls Tryd.prog 38 #[sv] wx fun e w' => ∃ sv', e = .returned sv' ∧ w'.ownsRow wx.heap.size 24 2 sv' (mrg d1.l d2.l).length (polCells (mrg d1.l d2.l)) ∧ Below wx.heap.size wx w' from by
        obtain ⟨ao, cap, rfl, hr⟩ := row_of_own hx.own
        refine (gathered_any ao cap _ wx hr (by simp; omega)).mono fun e w' ⟨sv', he, hi⟩ => ⟨sv', he, ?_, hi.below⟩
        have := hi.own
        rw [List.nil_append, gth_two k1 k2] at this
        exact this
      have A1 := Lib.hid fun wx (hx : Below w.heap.size w wx) => h1.below hx
      have A2 := Lib.hid fun wx (hx : Below w.heap.size w wx) => h2.below hx
      have L1 := Lib.hid hl1
      have L2 := Lib.hid hl2
      clear hS h1 h2 hl1 hl2 k1 k2
      go_enter Tryd.func46, Tryd.ntmps46
      go_wp2_with (first | (go_at_call 14; (fail_if_success (have := B1)); refine V1.out.mono ?_; rintro e w1 ⟨rfl, hb1⟩; have B1 := Lib.hid hb1; clear hb1) | (go_at_call 14; refine (V2.out _ B1.out).mono ?_; rintro e w2 ⟨rfl, hb2⟩; have B2 := Lib.hid (B1.out.trans (hb2.mono B1.out.size)); clear hb2) | (at_builtin; (fail_if_success (have := I3)); refine append_row rfl _ _ rfl w.heap.size _ [] rfl (World.ownsRow_nil _ _ _ _) d1 (A1.out _ B2.out) rfl (by simp) (by have := L1.out; omega) B2.out.size ?_; intro v3 w3 hown3 hgrow3; have I3 := Lib.hid (AllI.grown (w := w) (wr := w2) (l := []) ⟨World.ownsRow_nil _ _ _ _, B2.out⟩ hown3 hgrow3); clear hown3 hgrow3) | (at_builtin; refine append_row rfl _ _ rfl w.heap.size _ ([] ++ d1.l) rfl I3.out.own d2 (A2.out _ I3.out.below) rfl (by have := L1.out; simp; omega) (by have := L2.out; omega) I3.out.below.size ?_; intro v4 w4 hown4 hgrow4; have I4 := Lib.hid (AllI.grown I3.out hown4 hgrow4); clear hown4 hgrow4) | (go_at_call 38; refine (GA.out _ _ I4.out).mono ?_; rintro e w5 ⟨sv5, rfl, ho5, hb5⟩; have O5 := Lib.hid ho5; have B5 := Lib.hid (I4.out.below.trans (hb5.mono I4.out.below.size)); clear ho5 hb5))
      go_ret2
      exact RowPost.own (l := ovL d1.l d2.l) (by rw [show ovL d1.l d2.l = mrg d1.l d2.l by unfold ovL; rw [if_pos K12.out]]; exact O5.out) (by unfold ovE; rw [if_pos K12.out]; rfl) B5.out

end Go.Proofs.YtladjkkkhomngaaDoor
