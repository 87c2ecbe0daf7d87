/- The law PolicySets returns true, whatever the row, the policy and the kind. -/
import Derived.Test.YtladjkkkhomngaaDoorSe
import Derived.Test.YtladjkkkhomngaaDoorSi
import Derived.Test.YtladjkkkhomngaaDoorYc
namespace Go.Proofs.YtladjkkkhomngaaDoor
set_option maxRecDepth 8000
open Go.RowKit Go.Sort Go.BigFrame

set_option maxRecDepth 100000 in
set_option maxHeartbeats 1000000 in
theorem short_one (g cap : Nat) (a1 : Option Addr) (n1 c1 : Nat) (w : World) (h0 : w.cell? ⟨g, 0, none⟩ = some (.slice a1 n1 c1)) :
    Calls Tryd.prog 5 #[.slice (some ⟨g, 0, none⟩) 1 cap] w fun e w' => e = .returned (.bool (decide (n1 ≤ 200))) ∧ w = w' := by
  go_enter Tryd.func5, Tryd.ntmps5
  go_wp2_with fail
  go_loopw [7] (fun i wr => ∃ k : Nat, i = .int .i64 k ∧ k ≤ 1 ∧ wr = w ∧ (1 ≤ k → n1 ≤ 200)) (fun i _ => 1 - (intOf i).toNat)
  case atStart => exact ⟨0, rfl, by omega, rfl, fun h => absurd h (by omega)⟩
  case round =>
    obtain ⟨k, rfl, hk, rfl, hn1⟩ := hrel
    have hh : k = 0 ∨ k = 1 := by omega
    rcases hh with rfl | rfl
    · clear hn1
      by_cases h : n1 ≤ 200
      · have e1 : decide ((200 : Int) < (n1 : Int)) = false := by simp; omega
        have e2 : ¬ (200 : Int) < (n1 : Int) := by omega
        have HH := Lib.hid h
        clear h
        go_wp2_with fail
        exact ⟨⟨1, rfl, by omega, by first | trivial | rfl, fun _ => HH.out⟩, by simp [intOf]⟩
      · have e1 : decide ((200 : Int) < (n1 : Int)) = true := by simp; omega
        have e2 : (200 : Int) < (n1 : Int) := by omega
        have HF : Hid (false = decide (n1 ≤ 200)) := Lib.hid (by simp [h])
        clear h
        go_wp2_with fail
        go_ret
        exact ⟨ret_bool HF.out, rfl⟩
    · have HF : Hid (true = decide (n1 ≤ 200)) := Lib.hid (by rw [decide_eq_true (hn1 (by omega))])
      clear hn1
      go_wp2_with fail
      go_ret
      exact ⟨ret_bool HF.out, rfl⟩

/-- A slice in a block of its own. -/
def oneO (a : Value) : Obj := .cells #[a] 22
theorem short_new1 (a1 : Option Addr) (n1 c1 : Nat) (w : World) :
    Calls Tryd.prog 5 #[.slice (some ⟨w.heap.size, 0, none⟩) 1 1] (w.alloc (oneO (.slice a1 n1 c1))) fun e w' => e = .returned (.bool (decide (n1 ≤ 200))) ∧ w.alloc (oneO (.slice a1 n1 c1)) = w' :=
  short_one w.heap.size 1 a1 n1 c1 _ (cells_at (heap_alloc_new w (oneO (.slice a1 n1 c1))) 0)

set_option maxRecDepth 100000 in
set_option maxHeartbeats 1000000 in
theorem sets_long (a1 : Option Addr) (n1 c1 : Nat) (pk pv q : Int) (w : World) (hS : SortsAt w) (h : ¬ n1 ≤ 200) :
    Calls Tryd.prog 3 #[.slice a1 n1 c1, .agg #[.int .i64 pk, .int .i64 pv], .int .i64 q] w fun e w' => e = .returned (.bool true) ∧ Below w.heap.size w w' := by
  have hb : Below w.heap.size w ((w.alloc (polO pk pv)).alloc (oneO (.slice a1 n1 c1))) := ((Below.refl _ _).alloc (Nat.le_refl _) _).alloc (by simp) _
  have SH0 := short_new1 a1 n1 c1 (w.alloc (polO pk pv))
  rw [decide_eq_false h, World.size_alloc] at SH0
  obtain ⟨v1, hv1⟩ : ∃ v1, (w.alloc (polO pk pv)).alloc (oneO (.slice a1 n1 c1)) = v1 := ⟨_, rfl⟩
  rw [hv1] at SH0 hb
  have HB := Lib.hid hb
  have HV := Lib.hid hv1
  have SH := Lib.hid SH0
  have AW := Lib.hid (awake_any _ (hS.below hb hS.pos))
  clear hS h hb SH0 hv1
  go_enter Tryd.func3, Tryd.ntmps3
  go_wp2_with fail
  rw [show (w.alloc (Obj.cells #[Value.int IntKind.i64 pk, Value.int IntKind.i64 pv] 24)).alloc (Obj.cells #[Value.slice a1 n1 c1] 22) = v1 from HV.out]
  refine SH.out.mono ?_
  rintro e w1 ⟨rfl, rfl⟩
  go_wp2_with (go_at_call 6; refine AW.out.mono ?_; rintro e w2 ⟨rfl, hb2⟩; have B2 := Lib.hid hb2; clear hb2)
  go_ret
  exact ⟨rfl, HB.out.trans (B2.out.mono HB.out.size)⟩

/-- same of two slices that hold one row. -/
theorem same_of {d1 d2 : SlD} (w : World) (h1 : d1.Ok w) (h2 : d2.Ok w) (he : d1.l = d2.l) (hl : d1.l.length ≤ 1000000) :
    Calls Tryd.prog 15 #[.slice d1.a d1.l.length d1.c, .slice d2.a d2.l.length d2.c] w fun e w' => e = .returned (.bool true) ∧ Below w.heap.size w w' := by
  have := eq13_any d1.a d2.a d1.c d2.c d1.l d2.l w h1.row h2.row hl
  rw [eqL_true he] at this
  exact this

theorem ofL_len (l : List PolD) : (ofL l).length ≤ 13 := by
  unfold ofL
  split
  · exact gthTo_len l 13
  · simp
theorem ovL_len {a b : List PolD} (n : Nat) (h : a.length + b.length ≤ n) : (ovL a b).length ≤ n := by
  unfold ovL
  split
  · exact Nat.le_trans (mrg_length a b) h
  · simp
theorem fil_len (f : PolD → Bool) (l : List PolD) : (l.filter f).length ≤ l.length := List.length_filter_le _ _
theorem wiL_len (q : Int) (l : List PolD) : (wiL q l).length ≤ l.length := by
  unfold wiL
  split
  · exact fil_len _ _
  · simp
theorem fL_len (f : PolD → Bool) (l : List PolD) : (fL f l).length ≤ l.length := by
  unfold fL
  split
  · exact fil_len _ _
  · simp
theorem plL_len (l : List PolD) : (plL l).length ≤ l.length := by
  unfold plL
  split
  · exact fil_len _ _
  · simp

theorem okS_plain {l : List PolD} (h : okS l = true) : okS (plainL l) = true :=
  okS_of_up ((okS_up h).filter _) fun p hp => okS_val h p ((List.mem_filter.1 hp).1)
theorem plE_zero {l : List PolD} (h : plE l = 0) : okS l = true := by
  unfold plE at h
  split at h
  · assumption
  · omega

set_option maxRecDepth 100000 in
set_option maxHeartbeats 8000000 in
theorem sets_short (ds : SlD) (pk pv q : Int) (w : World) (hS : SortsAt w) (h : ds.Ok w) (hl : ds.l.length ≤ 200) :
    Calls Tryd.prog 3 #[.slice ds.a ds.l.length ds.c, .agg #[.int .i64 pk, .int .i64 pv], .int .i64 q] w fun e w' => e = .returned (.bool true) ∧ Below w.heap.size w w' := by
  have hb : Below w.heap.size w ((w.alloc (polO pk pv)).alloc (oneO ds.v)) := ((Below.refl _ _).alloc (Nat.le_refl _) _).alloc (by simp) _
  have SH0 := short_new1 ds.a ds.l.length ds.c (w.alloc (polO pk pv))
  rw [decide_eq_true hl, World.size_alloc] at SH0
  have hp0 : ((w.alloc (polO pk pv)).alloc (oneO ds.v)).cell? ⟨w.heap.size, 0, none⟩ = some (.int .i64 pk) := ((((Below.refl _ _).alloc (Nat.le_refl _) _) : Below (w.alloc (polO pk pv)).heap.size (w.alloc (polO pk pv)) _).cell (by simp)).trans (polO_c0 pk pv w)
  have hp1 : ((w.alloc (polO pk pv)).alloc (oneO ds.v)).cell? ⟨w.heap.size, 1, none⟩ = some (.int .i64 pv) := ((((Below.refl _ _).alloc (Nat.le_refl _) _) : Below (w.alloc (polO pk pv)).heap.size (w.alloc (polO pk pv)) _).cell (by simp)).trans (polO_c1 pk pv w)
  have hp2 : w.heap.size < ((w.alloc (polO pk pv)).alloc (oneO ds.v)).heap.size := by simp; omega
  obtain ⟨v1, hv1⟩ : ∃ v1, (w.alloc (polO pk pv)).alloc (oneO ds.v) = v1 := ⟨_, rfl⟩
  rw [show ds.v = .slice ds.a ds.l.length ds.c from rfl] at hp0 hp1 hp2 hv1 hb
  rw [hv1] at SH0 hb hp0 hp1 hp2
  have BW := Lib.hid hb
  have HV := Lib.hid hv1
  have SH := Lib.hid SH0
  have P0 := Lib.hid hp0
  have P1 := Lib.hid hp1
  have P2 := Lib.hid hp2
  have B1 := Lib.hid (Below.refl v1.heap.size v1)
  replace hS := hS.below hb hS.pos
  replace h := h.below hb
  have HS := Lib.hid fun wx (hx : Below v1.heap.size v1 wx) => hS.below hx hS.pos
  have HR := Lib.hid fun wx (hx : Below v1.heap.size v1 wx) => h.below hx
  have HL := Lib.hid hl
  have AW := Lib.hid fun wx (hx : Below v1.heap.size v1 wx) => awake_any wx (hS.below hx hS.pos)
  obtain ⟨eo, heo⟩ : ∃ er, ofE ds.l = er := ⟨_, rfl⟩
  obtain ⟨gv, hgv⟩ : ∃ er, getV q ds.l = er := ⟨_, rfl⟩
  obtain ⟨ge, hge⟩ : ∃ er, wiE q ds.l = er := ⟨_, rfl⟩
  obtain ⟨nv, hnv⟩ : ∃ er, getV q [] = er := ⟨_, rfl⟩
  obtain ⟨ne, hne⟩ : ∃ er, wiE q [] = er := ⟨_, rfl⟩
  obtain ⟨vp, hvp⟩ : ∃ er, okP pk pv = er := ⟨_, rfl⟩
  obtain ⟨vs, hvs⟩ : ∃ er, okS ds.l = er := ⟨_, rfl⟩
  obtain ⟨pe, hpe⟩ : ∃ er, ovE ds.l [⟨pk, pv⟩] = er := ⟨_, rfl⟩
  obtain ⟨le, hle⟩ : ∃ er, plE ds.l = er := ⟨_, rfl⟩
  have HLE := Lib.hid hle
  have C2 := Lib.hid fun wx (hx : Below v1.heap.size v1 wx) => of_any ds wx (hS.below hx hS.pos) (h.below hx) hl
  rw [heo] at C2
  have C3 := Lib.hid fun wx (hx : Below v1.heap.size v1 wx) => rof_any ds wx (h.below hx) hl
  rw [heo] at C3
  have C4 := Lib.hid fun wx (hx : Below v1.heap.size v1 wx) => getAny ds.a ds.c ds.l q wx (hS.below hx hS.pos) (h.row.below hx) (by omega)
  unfold GetPost at C4
  rw [hgv, hge] at C4
  have C5 := Lib.hid fun wx (hx : Below v1.heap.size v1 wx) => rgetAny ds.a ds.c ds.l q wx (hS.below hx hS.pos) (h.row.below hx) (by omega)
  unfold GetPost at C5
  rw [hgv, hge] at C5
  have C6 := Lib.hid fun wx (hx : Below v1.heap.size v1 wx) => valid_any pk pv wx (hS.below hx hS.pos)
  rw [hvp] at C6
  have C7 := Lib.hid fun wx (hx : Below v1.heap.size v1 wx) => rvalid_any pk pv wx
  rw [hvp] at C7
  have C8 := Lib.hid fun wx (hx : Below v1.heap.size v1 wx) => validSet_any ds.a ds.c ds.l wx (hS.below hx hS.pos) (h.row.below hx) (by omega)
  rw [hvs] at C8
  have C9 := Lib.hid fun wx (hx : Below v1.heap.size v1 wx) => rvalidSet_any ds.a ds.c ds.l wx (hS.below hx hS.pos) (h.row.below hx) (by omega)
  rw [hvs] at C9
  have C11 := Lib.hid fun wx (hx : Below v1.heap.size v1 wx) => default_any q wx (hS.below hx hS.pos)
  unfold GetPost at C11
  rw [hnv, hne] at C11
  have C12 := Lib.hid fun wx (hx : Below v1.heap.size v1 wx) => rgetAny none 0 [] q wx (hS.below hx hS.pos) (.inl rfl) (by simp)
  unfold GetPost at C12
  rw [hnv, hne] at C12
  rw [List.length_nil] at C12
  have C13 := Lib.hid fun wx (hx : Below v1.heap.size v1 wx) => put_any ds pk pv wx (hS.below hx hS.pos) (h.below hx) (by omega)
  rw [hpe] at C13
  have C14 := Lib.hid fun wx (hx : Below v1.heap.size v1 wx) => rput_any ds pk pv wx (hS.below hx hS.pos) (h.below hx) (by omega)
  rw [hpe] at C14
  have C16 := Lib.hid fun wx (hx : Below v1.heap.size v1 wx) => without_any ds q wx (hS.below hx hS.pos) (h.below hx) (by omega)
  rw [hge] at C16
  have C17 := Lib.hid fun wx (hx : Below v1.heap.size v1 wx) => rwithout_any ds q wx (hS.below hx hS.pos) (h.below hx) (by omega)
  rw [hge] at C17
  have C19 := Lib.hid fun wx (hx : Below v1.heap.size v1 wx) => adapters_any ds wx (hS.below hx hS.pos) (h.below hx) (by omega)
  rw [hle] at C19
  have C20 := Lib.hid fun wx (hx : Below v1.heap.size v1 wx) => radapters_any ds wx (hS.below hx hS.pos) (h.below hx) (by omega)
  rw [hle] at C20
  have C22 := Lib.hid fun wx (hx : Below v1.heap.size v1 wx) => calls_any ds wx (hS.below hx hS.pos) (h.below hx) (by omega)
  rw [hle] at C22
  have C23 := Lib.hid fun wx (hx : Below v1.heap.size v1 wx) => rcalls_any ds wx (hS.below hx hS.pos) (h.below hx) (by omega)
  rw [hle] at C23
  have C25 := Lib.hid fun wx (hx : Below v1.heap.size v1 wx) => plain_any ds wx (hS.below hx hS.pos) (h.below hx) (by omega)
  rw [hle] at C25
  have C26 := Lib.hid fun wx (hx : Below v1.heap.size v1 wx) => rplainS_any ds wx (hS.below hx hS.pos) (h.below hx) (by omega)
  rw [hle] at C26
  clear hb hS h hl hp0 hp1 hp2 SH0 hv1 heo hgv hge hnv hne hvp hvs hpe hle
  go_enter Tryd.func3, Tryd.ntmps3
  go_wp2_with fail
  rw [show (w.alloc (Obj.cells #[Value.int IntKind.i64 pk, Value.int IntKind.i64 pv] 24)).alloc (Obj.cells #[Value.slice ds.a ds.l.length ds.c] 22) = v1 from HV.out]
  refine SH.out.mono ?_
  rintro e w1 ⟨rfl, rfl⟩
  go_wp2_with fail
  refine (C2.out _ B1.out).mono ?_
  rintro e w2 ⟨da, hd, rfl, hok, hb⟩
  have D2 := Lib.hid hd
  have K2 := Lib.hid hok
  have N2 := Lib.hid hb
  have B2 := Lib.hid (B1.out.trans (hb.mono B1.out.size))
  clear hd hok hb
  unfold SlD.v
  go_wp2_with fail
  refine (C3.out _ B2.out).mono ?_
  rintro e w3 ⟨db, hd, rfl, hok, hb⟩
  have D3 := Lib.hid hd
  have K3 := Lib.hid hok
  have N3 := Lib.hid hb
  have B3 := Lib.hid (B2.out.trans (hb.mono B2.out.size))
  clear hd hok hb
  unfold SlD.v
  go_wp2_with fail
  refine (C4.out _ B3.out).mono ?_
  rintro e w4 ⟨rfl, hb⟩
  have N4 := Lib.hid hb
  have B4 := Lib.hid (B3.out.trans (hb.mono B3.out.size))
  clear hb
  go_wp2_with fail
  refine (C5.out _ B4.out).mono ?_
  rintro e w5 ⟨rfl, hb⟩
  have N5 := Lib.hid hb
  have B5 := Lib.hid (B4.out.trans (hb.mono B4.out.size))
  clear hb
  have p0 := cell_regrown ((B5.out.cell (p := ⟨w.heap.size, 0, none⟩) P2.out).trans P0.out)
  have p1 := cell_regrown ((B5.out.cell (p := ⟨w.heap.size, 1, none⟩) P2.out).trans P1.out)
  have BX := Lib.hid fun d os => B5.out.trans ((below_regrown w5 d os).mono B5.out.size)
  have V6 : Hid (∀ d os, Calls Tryd.prog 11 #[.agg #[.int .i64 pk, .int .i64 pv]] (grow (redrawn w5 d) os) fun e w'' => e = .returned (.bool vp) ∧ ∃ p : Regrown, w'' = grow (redrawn w5 p.d) p.os) := Lib.hid fun d os => Calls.regrown_of (C6.out _ (BX.out d os))
  have V7 : Hid (∀ d os, Calls Tryd.prog 12 #[.agg #[.int .i64 pk, .int .i64 pv]] (grow (redrawn w5 d) os) fun e w'' => e = .returned (.bool vp) ∧ ∃ p : Regrown, w'' = grow (redrawn w5 p.d) p.os) := Lib.hid fun d os => Calls.regrown_of (C7.out _ (BX.out d os))
  have V8 : Hid (∀ d os, Calls Tryd.prog 13 #[.slice ds.a ds.l.length ds.c] (grow (redrawn w5 d) os) fun e w'' => e = .returned (.bool vs) ∧ ∃ p : Regrown, w'' = grow (redrawn w5 p.d) p.os) := Lib.hid fun d os => Calls.regrown_of (C8.out _ (BX.out d os))
  have V9 : Hid (∀ d os, Calls Tryd.prog 14 #[.slice ds.a ds.l.length ds.c] (grow (redrawn w5 d) os) fun e w'' => e = .returned (.bool vs) ∧ ∃ p : Regrown, w'' = grow (redrawn w5 p.d) p.os) := Lib.hid fun d os => Calls.regrown_of (C9.out _ (BX.out d os))
  have V10 : Hid (∀ d os, Calls Tryd.prog 15 #[.slice da.a da.l.length da.c, .slice db.a db.l.length db.c] (grow (redrawn w5 d) os) fun e w'' => e = .returned (.bool true) ∧ ∃ p : Regrown, w'' = grow (redrawn w5 p.d) p.os) := Lib.hid fun d os => Calls.regrown_of (same_of _ ((((K2.out.below N3.out).below N4.out).below N5.out).below (below_regrown w5 d os)) (((K3.out.below N4.out).below N5.out).below (below_regrown w5 d os)) (D2.out.trans D3.out.symm) (by rw [D2.out]; have := ofL_len ds.l; omega))
  have q1 : (vp != vp) = false := by simp
  have q2 : (vs != vs) = false := by simp
  have q3 : (eo != eo) = false := by simp
  have q4 : (gv != gv) = false := by simp
  have q5 : (ge != ge) = false := by simp
  go_wp2_with fail
  refine wp_region_quiet_below (by kernel_rfl) (by kernel_rfl) ?_
  repeat (go_big_quiet_step (first | exact V6.out _ _ | exact V7.out _ _ | exact V8.out _ _ | exact V9.out _ _ | exact V10.out _ _))
  refine wpQuiet_nil ?_
  intro _ hw'
  obtain ⟨⟨dq, osq⟩, hw''⟩ := hw'
  subst hw''
  clear p0 p1 V6 V7 V8 V9 V10 q1 q2 q3 q4 q5 BX
  obtain ⟨w10, hw10⟩ : ∃ x, grow (redrawn w5 dq) osq = x := ⟨_, rfl⟩
  have N10 : Hid (Below w5.heap.size w5 w10) := Lib.hid (by rw [← hw10]; exact below_regrown w5 dq osq)
  have B10 := Lib.hid (B5.out.trans (N10.out.mono B5.out.size))
  rw [hw10]
  clear hw10
  go_wp2_with fail
  refine (C11.out _ B10.out).mono ?_
  rintro e w11 ⟨rfl, hb⟩
  have N11 := Lib.hid hb
  have B11 := Lib.hid (B10.out.trans (hb.mono B10.out.size))
  clear hb
  go_wp2_with fail
  refine (C12.out _ B11.out).mono ?_
  rintro e w12 ⟨rfl, hb⟩
  have N12 := Lib.hid hb
  have B12 := Lib.hid (B11.out.trans (hb.mono B11.out.size))
  clear hb
  have p0 := (B12.out.cell (p := ⟨w.heap.size, 0, none⟩) P2.out).trans P0.out
  have p1 := (B12.out.cell (p := ⟨w.heap.size, 1, none⟩) P2.out).trans P1.out
  go_wp2_with fail
  clear p0 p1
  refine (C13.out _ B12.out).mono ?_
  rintro e w13 ⟨dc, hd, rfl, hok, hb⟩
  have D13 := Lib.hid hd
  have K13 := Lib.hid hok
  have N13 := Lib.hid hb
  have B13 := Lib.hid (B12.out.trans (hb.mono B12.out.size))
  clear hd hok hb
  unfold SlD.v
  have p0 := (B13.out.cell (p := ⟨w.heap.size, 0, none⟩) P2.out).trans P0.out
  have p1 := (B13.out.cell (p := ⟨w.heap.size, 1, none⟩) P2.out).trans P1.out
  go_wp2_with fail
  clear p0 p1
  refine (C14.out _ B13.out).mono ?_
  rintro e w14 ⟨dd, hd, rfl, hok, hb⟩
  have D14 := Lib.hid hd
  have K14 := Lib.hid hok
  have N14 := Lib.hid hb
  have B14 := Lib.hid (B13.out.trans (hb.mono B13.out.size))
  clear hd hok hb
  unfold SlD.v
  go_wp2_with fail
  refine (same_of w14 (K13.out.below N14.out) K14.out (D13.out.trans D14.out.symm) (by rw [D13.out]; have := ovL_len (a := ds.l) (b := [⟨pk, pv⟩]) 300 (by have := HL.out; simp; omega); have := HL.out; omega)).mono ?_
  rintro e w15 ⟨rfl, hb⟩
  have N15 := Lib.hid hb
  have B15 := Lib.hid (B14.out.trans (hb.mono B14.out.size))
  clear hb
  go_wp2_with fail
  refine (C16.out _ B15.out).mono ?_
  rintro e w16 ⟨de, hd, rfl, hok, hb⟩
  have D16 := Lib.hid hd
  have K16 := Lib.hid hok
  have N16 := Lib.hid hb
  have B16 := Lib.hid (B15.out.trans (hb.mono B15.out.size))
  clear hd hok hb
  unfold SlD.v
  go_wp2_with fail
  refine (C17.out _ B16.out).mono ?_
  rintro e w17 ⟨df, hd, rfl, hok, hb⟩
  have D17 := Lib.hid hd
  have K17 := Lib.hid hok
  have N17 := Lib.hid hb
  have B17 := Lib.hid (B16.out.trans (hb.mono B16.out.size))
  clear hd hok hb
  unfold SlD.v
  go_wp2_with fail
  refine (same_of w17 (K16.out.below N17.out) K17.out (D16.out.trans D17.out.symm) (by rw [D16.out]; have := wiL_len q ds.l; have := HL.out; omega)).mono ?_
  rintro e w18 ⟨rfl, hb⟩
  have N18 := Lib.hid hb
  have B18 := Lib.hid (B17.out.trans (hb.mono B17.out.size))
  clear hb
  go_wp2_with fail
  refine (C19.out _ B18.out).mono ?_
  rintro e w19 ⟨dg, hd, rfl, hok, hb⟩
  have D19 := Lib.hid hd
  have K19 := Lib.hid hok
  have N19 := Lib.hid hb
  have B19 := Lib.hid (B18.out.trans (hb.mono B18.out.size))
  clear hd hok hb
  unfold SlD.v
  go_wp2_with fail
  refine (C20.out _ B19.out).mono ?_
  rintro e w20 ⟨dh, hd, rfl, hok, hb⟩
  have D20 := Lib.hid hd
  have K20 := Lib.hid hok
  have N20 := Lib.hid hb
  have B20 := Lib.hid (B19.out.trans (hb.mono B19.out.size))
  clear hd hok hb
  unfold SlD.v
  go_wp2_with fail
  refine (same_of w20 (K19.out.below N20.out) K20.out (D19.out.trans D20.out.symm) (by rw [D19.out]; have := fL_len isA ds.l; have := HL.out; omega)).mono ?_
  rintro e w21 ⟨rfl, hb⟩
  have N21 := Lib.hid hb
  have B21 := Lib.hid (B20.out.trans (hb.mono B20.out.size))
  clear hb
  go_wp2_with fail
  refine (C22.out _ B21.out).mono ?_
  rintro e w22 ⟨di, hd, rfl, hok, hb⟩
  have D22 := Lib.hid hd
  have K22 := Lib.hid hok
  have N22 := Lib.hid hb
  have B22 := Lib.hid (B21.out.trans (hb.mono B21.out.size))
  clear hd hok hb
  unfold SlD.v
  go_wp2_with fail
  refine (C23.out _ B22.out).mono ?_
  rintro e w23 ⟨dj, hd, rfl, hok, hb⟩
  have D23 := Lib.hid hd
  have K23 := Lib.hid hok
  have N23 := Lib.hid hb
  have B23 := Lib.hid (B22.out.trans (hb.mono B22.out.size))
  clear hd hok hb
  unfold SlD.v
  go_wp2_with fail
  refine (same_of w23 (K22.out.below N23.out) K23.out (D22.out.trans D23.out.symm) (by rw [D22.out]; have := fL_len isC ds.l; have := HL.out; omega)).mono ?_
  rintro e w24 ⟨rfl, hb⟩
  have N24 := Lib.hid hb
  have B24 := Lib.hid (B23.out.trans (hb.mono B23.out.size))
  clear hb
  go_wp2_with fail
  refine (C25.out _ B24.out).mono ?_
  rintro e w25 ⟨dk, hd, rfl, hok, hb⟩
  have D25 := Lib.hid hd
  have K25 := Lib.hid hok
  have N25 := Lib.hid hb
  have B25 := Lib.hid (B24.out.trans (hb.mono B24.out.size))
  clear hd hok hb
  unfold SlD.v
  go_wp2_with fail
  refine (C26.out _ B25.out).mono ?_
  rintro e w26 ⟨dl, hd, rfl, hok, hb⟩
  have D26 := Lib.hid hd
  have K26 := Lib.hid hok
  have N26 := Lib.hid hb
  have B26 := Lib.hid (B25.out.trans (hb.mono B25.out.size))
  clear hd hok hb
  unfold SlD.v
  go_wp2_with fail
  refine (same_of w26 (K25.out.below N26.out) K26.out (D25.out.trans D26.out.symm) (by rw [D25.out]; have := plL_len ds.l; have := HL.out; omega)).mono ?_
  rintro e w27 ⟨rfl, hb⟩
  have N27 := Lib.hid hb
  have B27 := Lib.hid (B26.out.trans (hb.mono B26.out.size))
  clear hb
  have KP := Lib.hid ((K25.out.below N26.out).below N27.out)
  by_cases hE : le = 0
  · have HO := Lib.hid (plE_zero (HLE.out.trans hE))
    have f1 : (le == 0) = true := by simpa using hE
    have f2 : (le != 0) = false := by simpa using hE
    clear hE
    go_wp2_with fail
    have DP : Hid (dk.l = plainL ds.l) := Lib.hid (by rw [D25.out]; unfold plL; rw [if_pos HO.out])
    go_loopw [15] (fun k wr => ∃ n : Nat, k = .int .i64 ((n : Int) + 1) ∧ n ≤ 13 ∧ Below w27.heap.size w27 wr) (fun k _ => 14 - (intOf k).toNat)
    case atStart => exact ⟨0, rfl, by omega, Below.refl _ _⟩
    case round =>
      obtain ⟨n, rfl, hn, hbel⟩ := hrel
      have NB := Lib.hid hbel
      have BB := Lib.hid (B27.out.trans (hbel.mono B27.out.size))
      clear hbel
      by_cases hlt : n < 13
      · have hn1 : (n : Int) + 1 ≤ 13 := by omega
        have hn2 : (0 : Int) ≤ (n : Int) + 1 := by omega
        have hn3 : decide ((n : Int) + 1 ≤ 13) = true := by simp; omega
        have hk : isK ((n : Int) + 1) = true := by simp [isK]; omega
        have G1 := Lib.hid (getSet_any ds.a ds.c ds.l ((n : Int) + 1) wr (HS.out _ BB.out) (HR.out _ BB.out).row (by have := HL.out; omega) HO.out hk)
        have G2 := Lib.hid fun wx (hx : Below wr.heap.size wr wx) => getSet_any dk.a dk.c dk.l ((n : Int) + 1) wx (HS.out _ (BB.out.trans (hx.mono BB.out.size))) ((KP.out.below NB.out).below hx).row (by rw [D25.out]; have := plL_len ds.l; have := HL.out; omega) (by rw [DP.out]; exact okS_plain HO.out) hk
        obtain ⟨xv, hxv⟩ : ∃ xv, valOf ds.l ((n : Int) + 1) = xv := ⟨_, rfl⟩
        have hyv : valOf dk.l ((n : Int) + 1) = xv := by rw [DP.out, show plainL ds.l = ds.l.filter fun p => plainP p.k p.v from rfl, valOf_plain _ _ (okS_up HO.out), hxv]
        rw [hxv] at G1
        rw [hyv] at G2
        have q4 : (xv != xv) = false := by simp
        clear hxv hyv hk
        go_wp2_with fail
        refine G1.out.mono ?_
        rintro e wg ⟨rfl, hb⟩
        have NG := Lib.hid hb
        have BG := Lib.hid (NB.out.trans (hb.mono NB.out.size))
        clear hb
        go_wp2_with fail
        refine (G2.out _ NG.out).mono ?_
        rintro e wh ⟨rfl, hb⟩
        have BH := Lib.hid (BG.out.trans (hb.mono BG.out.size))
        clear hb
        go_wp2_with fail
        exact ⟨⟨n + 1, by go_num, by omega, BH.out⟩, by simp [intOf]; omega⟩
      · obtain rfl : n = 13 := by omega
        go_wp2_with (go_at_call 6; refine (AW.out _ BB.out).mono ?_; rintro e w28 ⟨rfl, hb⟩; have B28 := Lib.hid (BB.out.trans (hb.mono BB.out.size)); clear hb)
        go_ret
        exact ⟨rfl, BW.out.trans (B28.out.mono BW.out.size)⟩
  · have f1 : (le == 0) = false := by simpa using hE
    have f2 : (le != 0) = true := by simpa using hE
    clear hE
    go_wp2_with (go_at_call 6; refine (AW.out _ B27.out).mono ?_; rintro e w28 ⟨rfl, hb⟩; have B28 := Lib.hid (B27.out.trans (hb.mono B27.out.size)); clear hb)
    go_ret
    exact ⟨rfl, BW.out.trans (B28.out.mono BW.out.size)⟩

end Go.Proofs.YtladjkkkhomngaaDoor
