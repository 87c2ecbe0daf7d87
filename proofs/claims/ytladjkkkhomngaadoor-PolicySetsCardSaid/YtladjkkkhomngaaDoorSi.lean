/- The contracts of both Get and of policy.Default, of both Put, of the reference's Adapters, Calls and Plain. -/
import Derived.Test.YtladjkkkhomngaaDoorSh
namespace Go.Proofs.YtladjkkkhomngaaDoor
set_option maxRecDepth 8000
open Go.RowKit Go.Sort Go.BigFrame

/-- What Get returns, and its error. -/
noncomputable def getV (q : Int) (l : List PolD) : Int := if okS l = true ∧ isK q = true then valOf l q else 0
theorem gt_bad {q : Int} {l : List PolD} (h : okS l = false) : getV q l = 0 ∧ wiE q l = 1 := by
  unfold getV; exact ⟨if_neg (fun g => by rw [h] at g; cases g.1), (wi_bad h).2⟩
theorem gt_kind {q : Int} {l : List PolD} (h : okS l = true) (hq : isK q = false) : getV q l = 0 ∧ wiE q l = 10 := by
  unfold getV; exact ⟨if_neg (fun g => by rw [hq] at g; cases g.2), (wi_kind h hq).2⟩
theorem gt_good {q : Int} {l : List PolD} (h : okS l = true) (hq : isK q = true) : getV q l = valOf l q ∧ wiE q l = 0 := by
  unfold getV; exact ⟨if_pos ⟨h, hq⟩, (wi_good h hq).2⟩
def GetPost (w : World) (q : Int) (l : List PolD) (e : Ending) (w' : World) : Prop := e = .returned (.tuple #[.int .i64 (getV q l), .int .i64 (wiE q l)]) ∧ Below w.heap.size w w'
theorem GetPost.mk' {w w' : World} {q : Int} {l : List PolD} {e : Ending} {v er : Int} (h : getV q l = v ∧ wiE q l = er) (he : e = .returned (.tuple #[.int .i64 v, .int .i64 er])) (hb : Below w.heap.size w w') : GetPost w q l e w' := ⟨by rw [he, h.1, h.2], hb⟩

set_option maxRecDepth 100000 in
set_option maxHeartbeats 1000000 in
theorem getAny (ao : Option Addr) (cap : Nat) (l : List PolD) (q : Int) (w : World) (hS : SortsAt w) (h : RowAt w ao l) (hl : l.length ≤ 9223372036854775807) :
    Calls Tryd.prog 9 #[.slice ao l.length cap, .int .i64 q] w (GetPost w q l) := by
  cases hr : okS l
  · have VS := Lib.hid (validSet_any ao cap l w hS h hl)
    rw [hr] at VS
    have HF := Lib.hid (gt_bad (q := q) hr)
    clear hS h hl hr
    go_enter Tryd.func9, Tryd.ntmps9
    go_wp2_with (go_at_call 13; refine VS.out.mono ?_; rintro e w1 ⟨rfl, hb1⟩; have B1 := Lib.hid hb1; clear hb1)
    go_ret2
    exact GetPost.mk' HF.out rfl B1.out
  · cases ht : isK q
    · have VS := Lib.hid (validSet_any ao cap l w hS h hl)
      have IK := Lib.hid fun wx => isKind_any q wx
      rw [hr] at VS
      rw [ht] at IK
      have HF := Lib.hid (gt_kind hr ht)
      clear hS h hl hr ht
      go_enter Tryd.func9, Tryd.ntmps9
      go_wp2_with (first | (go_at_call 13; refine VS.out.mono ?_; rintro e w1 ⟨rfl, hb1⟩; have B1 := Lib.hid hb1; clear hb1) | (go_at_call 39; refine (IK.out _).mono ?_; rintro e w2 ⟨rfl, rfl⟩))
      go_ret2
      exact GetPost.mk' HF.out rfl B1.out
    · exact (getSet_any ao cap l q w hS h hl hr ht).mono fun e w' ⟨he, hb⟩ => GetPost.mk' (gt_good hr ht) he hb

set_option maxRecDepth 100000 in
set_option maxHeartbeats 1000000 in
theorem rgetAny (ao : Option Addr) (cap : Nat) (l : List PolD) (q : Int) (w : World) (hS : SortsAt w) (h : RowAt w ao l) (hl : l.length ≤ 9223372036854775807) :
    Calls Tryd.prog 10 #[.slice ao l.length cap, .int .i64 q] w (GetPost w q l) := by
  have VS := Lib.hid (rvalidSet_any ao cap l w hS h hl)
  have IK := Lib.hid fun wx => kind_any q wx
  have GE := Lib.hid fun wx (hx : Below w.heap.size w wx) => value_any ao cap l q wx (h.below hx) hl
  cases hr : okS l
  · rw [hr] at VS
    have HF := Lib.hid (gt_bad (q := q) hr)
    clear hS h hl hr
    go_enter Tryd.func10, Tryd.ntmps10
    go_wp2_with (go_at_call 14; refine VS.out.mono ?_; rintro e w1 ⟨rfl, hb1⟩; have B1 := Lib.hid hb1; clear hb1)
    go_ret2
    exact GetPost.mk' HF.out rfl B1.out
  · rw [hr] at VS
    cases ht : isK q
    · rw [ht] at IK
      have HF := Lib.hid (gt_kind hr ht)
      clear hS h hl hr ht
      go_enter Tryd.func10, Tryd.ntmps10
      go_wp2_with (first | (go_at_call 14; refine VS.out.mono ?_; rintro e w1 ⟨rfl, hb1⟩; have B1 := Lib.hid hb1; clear hb1) | (go_at_call 41; refine (IK.out _).mono ?_; rintro e w2 ⟨rfl, rfl⟩))
      go_ret2
      exact GetPost.mk' HF.out rfl B1.out
    · rw [ht] at IK
      have HF := Lib.hid (gt_good hr ht)
      clear hS h hl hr ht
      go_enter Tryd.func10, Tryd.ntmps10
      go_wp2_with (first | (go_at_call 14; refine VS.out.mono ?_; rintro e w1 ⟨rfl, hb1⟩; have B1 := Lib.hid hb1; clear hb1) | (go_at_call 41; refine (IK.out _).mono ?_; rintro e w2 ⟨rfl, rfl⟩) | (go_at_call 42; refine (GE.out _ B1.out).mono ?_; rintro e w3 ⟨rfl, hb3⟩; have B3 := Lib.hid (B1.out.trans (hb3.mono B1.out.size)); clear hb3))
      go_ret2
      exact GetPost.mk' HF.out rfl B3.out

set_option maxRecDepth 100000 in
set_option maxHeartbeats 1000000 in
theorem default_any (q : Int) (w : World) (hS : SortsAt w) : Calls Tryd.prog 16 #[.int .i64 q] w (GetPost w q []) := by
  have IK := Lib.hid fun wx => isKind_any q wx
  cases ht : isK q
  · rw [ht] at IK
    have HF := Lib.hid (gt_kind (q := q) (l := []) (okS_true (okTo_zero [])) ht)
    clear hS ht
    go_enter Tryd.func16, Tryd.ntmps16
    go_wp2_with (go_at_call 39; refine (IK.out _).mono ?_; rintro e w2 ⟨rfl, rfl⟩)
    go_ret2
    exact GetPost.mk' HF.out rfl (Below.refl _ _)
  · rw [ht] at IK
    have HF := Lib.hid (gt_good (q := q) (l := []) (okS_true (okTo_zero [])) ht)
    have BD := Lib.hid (byDefault_any q w hS ht)
    clear hS ht
    go_enter Tryd.func16, Tryd.ntmps16
    go_wp2_with (first | (go_at_call 39; refine (IK.out _).mono ?_; rintro e w2 ⟨rfl, rfl⟩) | (go_at_call 43; refine BD.out.mono ?_; rintro e w2 ⟨rfl, rfl⟩))
    go_ret2
    exact GetPost.mk' HF.out rfl (Below.refl _ _)

/-! ### The reference's Adapters, Calls, Plain -/
theorem part_selA {l : List PolD} (h : okS l = true) : partTo 1 7 l l.length = l.filter isA := by
  unfold partTo
  rw [List.take_length]
  refine List.filter_congr fun p hp => ?_
  have := okS_val h p hp
  simp only [okP, isK, Bool.and_eq_true, decide_eq_true_eq] at this
  unfold betw isA
  by_cases h8 : p.k < 8
  · rw [decide_eq_true h8, decide_eq_true (by omega), decide_eq_true (by omega)]; rfl
  · rw [decide_eq_false h8, decide_eq_false (show ¬ p.k ≤ 7 by omega)]; simp
theorem part_selC {l : List PolD} (h : okS l = true) : partTo 8 13 l l.length = l.filter isC := by
  unfold partTo
  rw [List.take_length]
  refine List.filter_congr fun p hp => ?_
  have := okS_val h p hp
  simp only [okP, isK, Bool.and_eq_true, decide_eq_true_eq] at this
  unfold betw isC
  rw [decide_eq_true (show p.k ≤ 13 by omega)]
  simp


set_option maxRecDepth 100000 in
set_option maxHeartbeats 1000000 in
theorem radapters_any (d : SlD) (w : World) (hS : SortsAt w) (h : d.Ok w) (hl : d.l.length ≤ 1000000) :
    Calls Tryd.prog 22 #[.slice d.a d.l.length d.c] w (RowPost w (fL isA d.l) (plE d.l)) := by
  have VS := Lib.hid (rvalidSet_any d.a d.c d.l w hS h.row (by omega))
  have PA := Lib.hid fun wx (hx : Below w.heap.size w wx) => part_any 1 7 d.a d.c d.l wx (h.row.below hx) hl
  cases hr : okS d.l
  · rw [hr] at VS
    have HO := Lib.hid hr
    clear hS h hl hr
    go_enter Tryd.func22, Tryd.ntmps22
    go_wp2_with (go_at_call 14; refine VS.out.mono ?_; rintro e w1 ⟨rfl, hb1⟩; have B1 := Lib.hid hb1; clear hb1)
    go_ret2
    exact RowPost.nil (by unfold fL; rw [if_neg (by rw [HO.out]; decide)]) (by unfold plE; rw [if_neg (by rw [HO.out]; decide)]; rfl) B1.out
  · rw [hr] at VS
    have HO := Lib.hid hr
    clear hS h hl hr
    go_enter Tryd.func22, Tryd.ntmps22
    go_wp2_with (first | (go_at_call 14; refine VS.out.mono ?_; rintro e w1 ⟨rfl, hb1⟩; have B1 := Lib.hid hb1; clear hb1) | (go_at_call 50; refine (PA.out _ B1.out).mono ?_; rintro e w2 ⟨sv, rfl, hi2⟩; have I2 := Lib.hid hi2; have B2 := Lib.hid (B1.out.trans (hi2.below.mono B1.out.size)); clear hi2))
    go_ret2
    refine RowPost.own (l := fL isA d.l) (base := w1.heap.size) ?_ (by unfold plE; rw [if_pos HO.out]; rfl) B2.out
    rw [show fL isA d.l = partTo 1 7 d.l d.l.length by unfold fL; rw [if_pos HO.out]; exact (part_selA HO.out).symm]
    exact I2.out.own

set_option maxRecDepth 100000 in
set_option maxHeartbeats 1000000 in
theorem rcalls_any (d : SlD) (w : World) (hS : SortsAt w) (h : d.Ok w) (hl : d.l.length ≤ 1000000) :
    Calls Tryd.prog 24 #[.slice d.a d.l.length d.c] w (RowPost w (fL isC d.l) (plE d.l)) := by
  have VS := Lib.hid (rvalidSet_any d.a d.c d.l w hS h.row (by omega))
  have PA := Lib.hid fun wx (hx : Below w.heap.size w wx) => part_any 8 13 d.a d.c d.l wx (h.row.below hx) hl
  cases hr : okS d.l
  · rw [hr] at VS
    have HO := Lib.hid hr
    clear hS h hl hr
    go_enter Tryd.func24, Tryd.ntmps24
    go_wp2_with (go_at_call 14; refine VS.out.mono ?_; rintro e w1 ⟨rfl, hb1⟩; have B1 := Lib.hid hb1; clear hb1)
    go_ret2
    exact RowPost.nil (by unfold fL; rw [if_neg (by rw [HO.out]; decide)]) (by unfold plE; rw [if_neg (by rw [HO.out]; decide)]; rfl) B1.out
  · rw [hr] at VS
    have HO := Lib.hid hr
    clear hS h hl hr
    go_enter Tryd.func24, Tryd.ntmps24
    go_wp2_with (first | (go_at_call 14; refine VS.out.mono ?_; rintro e w1 ⟨rfl, hb1⟩; have B1 := Lib.hid hb1; clear hb1) | (go_at_call 50; refine (PA.out _ B1.out).mono ?_; rintro e w2 ⟨sv, rfl, hi2⟩; have I2 := Lib.hid hi2; have B2 := Lib.hid (B1.out.trans (hi2.below.mono B1.out.size)); clear hi2))
    go_ret2
    refine RowPost.own (l := fL isC d.l) (base := w1.heap.size) ?_ (by unfold plE; rw [if_pos HO.out]; rfl) B2.out
    rw [show fL isC d.l = partTo 8 13 d.l d.l.length by unfold fL; rw [if_pos HO.out]; exact (part_selC HO.out).symm]
    exact I2.out.own

set_option maxRecDepth 100000 in
set_option maxHeartbeats 1000000 in
theorem rplainS_any (d : SlD) (w : World) (hS : SortsAt w) (h : d.Ok w) (hl : d.l.length ≤ 1000000) :
    Calls Tryd.prog 26 #[.slice d.a d.l.length d.c] w (RowPost w (plL d.l) (plE d.l)) := by
  have VS := Lib.hid (rvalidSet_any d.a d.c d.l w hS h.row (by omega))
  have PA := Lib.hid fun wx (hx : Below w.heap.size w wx) => rplain_any d.a d.c d.l wx (h.row.below hx) hl
  cases hr : okS d.l
  · rw [hr] at VS
    have HO := Lib.hid hr
    clear hS h hl hr
    go_enter Tryd.func26, Tryd.ntmps26
    go_wp2_with (go_at_call 14; refine VS.out.mono ?_; rintro e w1 ⟨rfl, hb1⟩; have B1 := Lib.hid hb1; clear hb1)
    go_ret2
    exact RowPost.nil (by unfold plL; rw [if_neg (by rw [HO.out]; decide)]) (by unfold plE; rw [if_neg (by rw [HO.out]; decide)]; rfl) B1.out
  · rw [hr] at VS
    have HO := Lib.hid hr
    clear hS h hl hr
    go_enter Tryd.func26, Tryd.ntmps26
    go_wp2_with (first | (go_at_call 14; refine VS.out.mono ?_; rintro e w1 ⟨rfl, hb1⟩; have B1 := Lib.hid hb1; clear hb1) | (go_at_call 53; refine (PA.out _ B1.out).mono ?_; rintro e w2 ⟨sv, rfl, hi2⟩; have I2 := Lib.hid hi2; have B2 := Lib.hid (B1.out.trans (hi2.below.mono B1.out.size)); clear hi2))
    go_ret2
    refine RowPost.own (l := plL d.l) (base := w1.heap.size) ?_ (by unfold plE; rw [if_pos HO.out]; rfl) B2.out
    rw [show plL d.l = plainL d.l by unfold plL; rw [if_pos HO.out]]
    have := I2.out.own
    rw [keptTo_all] at this
    exact this

/-! ### Put -/
theorem okS_one (k v : Int) : okS [⟨k, v⟩] = okP k v := by
  cases h : okP k v
  · exact okS_bad (l := [⟨k, v⟩]) (n := 0) (by simp) h
  · refine okS_true fun i hi hh => ?_
    have h0 : i = 0 := by simp at hh; omega
    subst h0
    exact ⟨h, fun h0 => absurd h0 (by omega)⟩

theorem sl_one {w : World} {B : Nat} {k v : Int} (h : w.heap[B]? = some (polO k v)) : (⟨some ⟨B, 0, none⟩, [⟨k, v⟩], 1⟩ : SlD).Ok w :=
  ⟨by simp, .inr ⟨B, 0, rfl, (Array.getElem?_eq_some_iff.1 h).1, fun i hi => by
    have : i = 0 := by simp at hi; omega
    subst this
    exact ⟨pol_c0 h, pol_c1 h⟩⟩, fun h => by cases h⟩

set_option maxRecDepth 100000 in
set_option maxHeartbeats 2000000 in
theorem rput_any (d : SlD) (k v : Int) (w : World) (hS : SortsAt w) (h : d.Ok w) (hl : d.l.length ≤ 1000) :
    Calls Tryd.prog 18 #[.slice d.a d.l.length d.c, .agg #[.int .i64 k, .int .i64 v]] w (RowPost w (ovL d.l [⟨k, v⟩]) (ovE d.l [⟨k, v⟩])) := by
  have OV := Lib.hid fun wx (hx : Below w.heap.size w wx) (B : Nat) (hB : wx.heap[B]? = some (polO k v)) => rover_any d ⟨some ⟨B, 0, none⟩, [⟨k, v⟩], 1⟩ wx (hS.below hx hS.pos) (h.below hx) (sl_one hB) hl (by simp)
  obtain ⟨L, hL⟩ : ∃ L, ovL d.l [⟨k, v⟩] = L := ⟨_, rfl⟩
  obtain ⟨er, her⟩ : ∃ er, ovE d.l [⟨k, v⟩] = er := ⟨_, rfl⟩
  simp only at OV
  rw [hL, her] at OV
  rw [hL, her]
  clear hS h hl hL her
  go_enter Tryd.func18, Tryd.ntmps18
  go_wp2_with fail
  have hb : Below w.heap.size w ((w.alloc (polO k v)).alloc (polO k v)) := ((Below.refl _ _).alloc (Nat.le_refl _) _).alloc (by simp) _
  have hnew : ((w.alloc (polO k v)).alloc (polO k v)).heap[w.heap.size + 1]? = some (polO k v) := by have := heap_alloc_new (w.alloc (polO k v)) (polO k v); rw [World.size_alloc] at this; exact this
  have HB := Lib.hid hb
  refine (OV.out _ hb _ hnew).mono ?_
  rintro e w3 ⟨d3, hd, rfl, hok, hb3⟩
  have HD := Lib.hid hd
  have HO := Lib.hid hok
  have B3 := Lib.hid (HB.out.trans (hb3.mono HB.out.size))
  clear hb hnew hd hok hb3
  unfold SlD.v
  go_wp2_with fail
  go_ret2
  exact ⟨d3, HD.out, rfl, HO.out, B3.out⟩

theorem ov_bad {l m : List PolD} (h : ¬ (okS l = true ∧ okS m = true)) : ovL l m = [] ∧ ovE l m = 1 := by
  unfold ovL ovE; exact ⟨if_neg h, if_neg h⟩
theorem ov_good {l m : List PolD} (h : okS l = true ∧ okS m = true) : ovL l m = mrg l m ∧ ovE l m = 0 := by
  unfold ovL ovE; exact ⟨if_pos h, if_pos h⟩

set_option maxRecDepth 100000 in
set_option maxHeartbeats 2000000 in
theorem put_any (d : SlD) (k v : Int) (w : World) (hS : SortsAt w) (h : d.Ok w) (hl : d.l.length ≤ 1000) :
    Calls Tryd.prog 17 #[.slice d.a d.l.length d.c, .agg #[.int .i64 k, .int .i64 v]] w (RowPost w (ovL d.l [⟨k, v⟩]) (ovE d.l [⟨k, v⟩])) := by
  have hb : Below w.heap.size w (w.alloc (polO k v)) := (Below.refl _ _).alloc (Nat.le_refl _) _
  have HB := Lib.hid hb
  have HSZ : Hid (w.heap.size < (w.alloc (polO k v)).heap.size) := Lib.hid (by simp)
  have H0 := Lib.hid (polO_c0 k v w)
  have H1 := Lib.hid (polO_c1 k v w)
  have VS := Lib.hid (validSet_any d.a d.c d.l (w.alloc (polO k v)) (hS.below hb hS.pos) (h.row.below hb) (by omega))
  have VA := Lib.hid fun wx (hx : Below w.heap.size w wx) => valid_any k v wx (hS.below hx hS.pos)
  have TG := Lib.hid fun wx (hx : Below w.heap.size w wx) (B : Nat) (hB : wx.heap[B]? = some (polO k v)) => together_any d.a (some ⟨B, 0, none⟩) d.c 1 d.l [⟨k, v⟩] wx (h.below hx).lt (sl_one hB).lt (by omega) (by simp)
  cases hr : okS d.l
  · rw [hr] at VS
    have HF := Lib.hid (ov_bad (l := d.l) (m := [⟨k, v⟩]) (fun g => by rw [hr] at g; cases g.1))
    clear hS h hl hb hr
    go_enter Tryd.func17, Tryd.ntmps17
    go_wp2_with (go_at_call 13; refine VS.out.mono ?_; rintro e w1 ⟨rfl, hb1⟩; have B1 := Lib.hid (HB.out.trans (hb1.mono HB.out.size)); clear hb1)
    go_ret2
    exact RowPost.nil HF.out.1 (by rw [HF.out.2]; rfl) B1.out
  · rw [hr] at VS
    cases hp : okP k v
    · rw [hp] at VA
      have HF := Lib.hid (ov_bad (l := d.l) (m := [⟨k, v⟩]) (fun g => by rw [okS_one, hp] at g; cases g.2))
      clear hS h hl hb hr hp
      go_enter Tryd.func17, Tryd.ntmps17
      go_wp2_with (first | (go_at_call 13; refine VS.out.mono ?_; rintro e w1 ⟨rfl, hb1⟩; have n0 := (hb1.cell (p := ⟨w.heap.size, 0, none⟩) HSZ.out).trans H0.out; have n1 := (hb1.cell (p := ⟨w.heap.size, 1, none⟩) HSZ.out).trans H1.out; have B1 := Lib.hid (HB.out.trans (hb1.mono HB.out.size)); clear hb1) | (go_at_call 11; refine (VA.out _ B1.out).mono ?_; rintro e w2 ⟨rfl, hb2⟩; have B2 := Lib.hid (B1.out.trans (hb2.mono B1.out.size)); clear hb2))
      go_ret2
      exact RowPost.nil HF.out.1 (by rw [HF.out.2]; rfl) B2.out
    · rw [hp] at VA
      have HF := Lib.hid (ov_good (l := d.l) (m := [⟨k, v⟩]) ⟨hr, by rw [okS_one, hp]⟩)
      clear hS h hl hb hr hp
      go_enter Tryd.func17, Tryd.ntmps17
      go_wp2_with (first | (go_at_call 13; refine VS.out.mono ?_; rintro e w1 ⟨rfl, hb1⟩; have n0 := (hb1.cell (p := ⟨w.heap.size, 0, none⟩) HSZ.out).trans H0.out; have n1 := (hb1.cell (p := ⟨w.heap.size, 1, none⟩) HSZ.out).trans H1.out; have N1 := Lib.hid hb1; have B1 := Lib.hid (HB.out.trans (hb1.mono HB.out.size)); clear hb1) | (go_at_call 11; refine (VA.out _ B1.out).mono ?_; rintro e w2 ⟨rfl, hb2⟩; have m0 := (hb2.cell (p := ⟨w.heap.size, 0, none⟩) (Nat.lt_of_lt_of_le HSZ.out N1.out.size)).trans n0; have m1 := (hb2.cell (p := ⟨w.heap.size, 1, none⟩) (Nat.lt_of_lt_of_le HSZ.out N1.out.size)).trans n1; have B2 := Lib.hid (B1.out.trans (hb2.mono B1.out.size)); clear hb2 n0 n1))
      have hb3 : Below w.heap.size w (w2.alloc (polO k v)) := B2.out.trans (((Below.refl _ _).alloc (Nat.le_refl _) _).mono B2.out.size)
      have HB3 := Lib.hid hb3
      refine (TG.out _ hb3 _ (heap_alloc_new w2 (polO k v))).mono ?_
      rintro e w3 ⟨sv, rfl, ho3, hb4⟩
      have O3 := Lib.hid ho3
      have B4 := Lib.hid (HB3.out.trans (hb4.mono HB3.out.size))
      clear hb3 ho3 hb4
      go_wp2_with fail
      go_ret2
      exact RowPost.own (l := ovL d.l [⟨k, v⟩]) (by rw [HF.out.1]; exact O3.out) (by rw [HF.out.2]; rfl) B4.out

end Go.Proofs.YtladjkkkhomngaaDoor
