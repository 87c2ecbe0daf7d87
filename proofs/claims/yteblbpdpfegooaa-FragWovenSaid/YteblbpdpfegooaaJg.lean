/- The reference's Take of a message that is open. -/
import Derived.Test.YteblbpdpfegooaaJf
namespace Go.Proofs.Yteblbpdpfegooaa
open Go.RowKit Go.Sort Go.BigFrame
attribute [local go_sem ↓] Go.wp_at_zero Go.wp_at_succ

theorem RJ.at {w : World} {F : Nat → Prop} {b : Nat} {most room : Int} {g n cap : Nat} {l : List Op} (h : RJ w F b most room (.slice (some ⟨g, 0, none⟩) n cap) l) {k : Nat} (hk : k < l.length) :
    n = l.length ∧ w.cell? ⟨g, k * 3, none⟩ = some (.int .i64 l[k].id) ∧ w.cell? ⟨g, k * 3 + 1, none⟩ = some (.int .i64 l[k].pieces) ∧ w.cell? ⟨g, k * 3 + 2, none⟩ = some (.string l[k].body) := by
  obtain ⟨g', cap', hv, _, c0, c1, c2⟩ := h.form.2 k hk
  simp only [Value.slice.injEq, Option.some.injEq, Addr.mk.injEq] at hv
  obtain ⟨⟨rfl, _, _⟩, hn, _⟩ := hv
  exact ⟨hn, c0, c1, c2⟩

abbrev opO (i pc : Int) (bd : ByteArray) : Obj := .cells #[.int .i64 i, .int .i64 pc, .string bd] 72

/-- .. with a copy of an open message in block X. -/
structure TkX (w W : World) (F : Nat → Prop) (b : Nat) (most room : Int) (sv : Value) (l : List Op) (p : Pc) (P : Nat) (X : Nat) (x : Op) : Prop where
  r : TkR w W F b most room sv l p P
  xb : W.heap[X]? = some (opO x.id x.pieces x.body)
  lt : P < X

section
variable {w W W' : World} {F : Nat → Prop} {b : Nat} {most room : Int} {sv : Value} {l : List Op} {p : Pc} {P X : Nat} {x : Op}

theorem TkX.next (h : TkX w W F b most room sv l p P X x) (hb : Below W.heap.size W W') : TkX w W' F b most room sv l p P X x :=
  ⟨h.r.next hb, (hb.block _ (Array.getElem?_eq_some_iff.1 h.xb).1).trans h.xb, h.lt⟩

theorem TkX.start (h : TkR w W F b most room sv l p P) (i pc : Int) (bd : ByteArray) : TkX w (W.alloc (opO i pc bd)) F b most room sv l p P W.heap.size ⟨i, pc, bd⟩ :=
  ⟨h.next ((Below.refl _ _).alloc (Nat.le_refl _) _), heap_alloc_new _ _, (Array.getElem?_eq_some_iff.1 h.blk).1⟩

theorem TkX.xcells (h : TkX w W F b most room sv l p P X x) : W.cell? ⟨X, 0, none⟩ = some (.int .i64 x.id) ∧ W.cell? ⟨X, 1, none⟩ = some (.int .i64 x.pieces) ∧ W.cell? ⟨X, 2, none⟩ = some (.string x.body) :=
  ⟨cells_at h.xb 0, cells_at h.xb 1, cells_at h.xb 2⟩

/-- What a call of the joiner leaves of the piece and of the copy. -/
theorem TkX.far {m : List Op} (h : TkX w W F b most room sv l p P X x) (hF : ∀ k, F k → k < w.heap.size) (hs : RStep W F b most room m W') :
    W'.cell? ⟨X, 2, none⟩ = some (.string x.body) ∧ W'.cell? ⟨P, 3, none⟩ = some (.string p.body) := by
  obtain ⟨F', sv', _, _, hbut⟩ := hs
  have hP := h.r.pP
  have hX := h.lt
  have k1 := hbut.kept h.xb fun g => by have := hF _ g; omega
  have k2 := hbut.kept h.r.blk fun g => by have := hF _ g; omega
  exact ⟨cells_at k1 2, cells_at k2 3⟩
end

set_option maxRecDepth 100000 in
set_option maxHeartbeats 1000000 in
theorem rtake_s1 (b : Nat) (most room : Int) (sv : Value) (l : List Op) (p : Pc) (F : Nat → Prop) (w : World) (h : RJ w F b most room sv l) (ok : OpsOk most l) (hm : limB most room = true) (hv : vP p = true) (k : Nat) (hk : k < l.length) (hn : idxO l p.id = some k) (hp : ¬ p.place = l[k].pieces) :
    Calls Try.prog 18 #[.pointer (some ⟨b, 0, none⟩), .agg #[.int .i64 p.id, .int .i64 p.place, .bool p.more, .string p.body]] w (RTakeP w F b most room (took most room l p)) := by
  obtain ⟨i, pl, m, bd⟩ := p
  have hr : took most room l ⟨i, pl, m, bd⟩ = tookS room l ⟨i, pl, m, bd⟩ k l[k] := by
    unfold took
    rw [if_pos hv]
    simp only [hn, getD_at hk]
  rw [hr]
  clear hr
  obtain ⟨g, cap, rfl, _⟩ := h.form.2 k hk
  have HAT := Lib.hid fun wx (hx : RJ wx F b most room (.slice (some ⟨g, 0, none⟩) l.length cap) l) => (hx.at hk).2
  obtain ⟨hm1, hm2, hm3, hm4⟩ := limB_spec hm
  have hl : l.length ≤ 100 := by have := ok.few; omega
  have hxb := ok.body l[k] (List.getElem_mem hk)
  have hxp := ok.pieces l[k] (List.getElem_mem hk)
  obtain ⟨x, hx⟩ : ∃ x, l[k] = x := ⟨_, rfl⟩
  rw [hx] at HAT hxb hxp ⊢
  simp only [hx] at *
  obtain ⟨xi, xp, xb⟩ := x
  unfold tookS
  simp only at *
  have hpb := vP_body hv
  simp only at hpb
  have VA := Lib.hid fun wx => rvalid_any i pl m bd wx
  rw [hv] at VA
  have FI := Lib.hid fun wx (hx : RJ wx F b most room (.slice (some ⟨g, 0, none⟩) l.length cap) l) => rfind_any b most room _ l i F wx hx hl
  have hf : findO l i = (k : Int) := by unfold findO; rw [hn]
  rw [hf] at FI
  have T1 := Lib.hid (TkR.start h i pl m bd)
  have HFW := Lib.hid h.few
  have RM := Lib.hid fun wx (hx : RJ wx F b most room (.slice (some ⟨g, 0, none⟩) l.length cap) l) => rremove_any b most room _ l k F wx hx hl hk
  have RB := Lib.hid fun wx (hx : RJ wx F b most room (.slice (some ⟨g, 0, none⟩) l.length cap) l) => rbytes_any b most room _ l F wx hx hl ok.body
  have hbs : (bytesO l : Int) + (bd.size : Int) ≤ 100000000 := by
    have h1 := bytesO_le ok.body
    omega
  obtain ⟨S, hS⟩ : ∃ S, bytesO l = S := ⟨_, rfl⟩
  simp only [hS] at *
  have hk0 : (0 : Int) ≤ (k : Int) := by omega
  have hk1 : (k : Int) < (l.length : Int) := by omega
  have hk2 : decide ((k : Int) < 0) = false := decide_eq_false (by omega)
  rw [if_pos hp]
  have e1 : decide (pl = xp) = false := decide_eq_false hp
  clear h hm hm1 hm2 hm3 hm4 hl hv hn hf ok hS hx hxb hxp hpb hk
  clear RB hbs
  go_enter Try.func18, Try.ntmps18
  go_wp2_with (first | (go_at_call 33; refine (VA.out _).mono ?_; rintro e w2 ⟨rfl, hb2⟩; have T2 := Lib.hid (T1.out.next hb2); obtain ⟨p0, p1, p2, p3⟩ := T2.out.cells; clear hb2) | (go_at_call 30; refine (FI.out _ T2.out.j).mono ?_; rintro e w3 ⟨rfl, hb3⟩; have T3 := Lib.hid (T2.out.next hb3); clear p0 p1 p2 p3; obtain ⟨p0, p1, p2, p3⟩ := T3.out.cells; obtain ⟨j0, j1, j2⟩ := T3.out.jcells; obtain ⟨q0, q1, q2⟩ := HAT.out _ T3.out.j; have T4 := Lib.hid (TkX.start T3.out xi xp xb); have y1 := T4.out.r.cells.2.1; have y2 := T4.out.r.cells.2.2.1; have y3 := T4.out.r.cells.2.2.2; have x2 := T4.out.xcells.2.2; clear hb3 T2) | (go_at_call 31; refine (RM.out _ T4.out.r.j).mono ?_; rintro e w5 ⟨rfl, hs5⟩; have HS5 := Lib.hid (RStep.after T4.out.r.below hs5); clear hs5))
  go_ret3
  exact ⟨rfl, HS5.out⟩

set_option maxRecDepth 100000 in
set_option maxHeartbeats 1000000 in
theorem rtake_s2 (b : Nat) (most room : Int) (sv : Value) (l : List Op) (p : Pc) (F : Nat → Prop) (w : World) (h : RJ w F b most room sv l) (ok : OpsOk most l) (hm : limB most room = true) (hv : vP p = true) (k : Nat) (hk : k < l.length) (hn : idxO l p.id = some k) (hp : p.place = l[k].pieces) (hs : 65536 < l[k].body.size + p.body.size) :
    Calls Try.prog 18 #[.pointer (some ⟨b, 0, none⟩), .agg #[.int .i64 p.id, .int .i64 p.place, .bool p.more, .string p.body]] w (RTakeP w F b most room (took most room l p)) := by
  obtain ⟨i, pl, m, bd⟩ := p
  have hr : took most room l ⟨i, pl, m, bd⟩ = tookS room l ⟨i, pl, m, bd⟩ k l[k] := by
    unfold took
    rw [if_pos hv]
    simp only [hn, getD_at hk]
  rw [hr]
  clear hr
  obtain ⟨g, cap, rfl, _⟩ := h.form.2 k hk
  have HAT := Lib.hid fun wx (hx : RJ wx F b most room (.slice (some ⟨g, 0, none⟩) l.length cap) l) => (hx.at hk).2
  obtain ⟨hm1, hm2, hm3, hm4⟩ := limB_spec hm
  have hl : l.length ≤ 100 := by have := ok.few; omega
  have hxb := ok.body l[k] (List.getElem_mem hk)
  have hxp := ok.pieces l[k] (List.getElem_mem hk)
  obtain ⟨x, hx⟩ : ∃ x, l[k] = x := ⟨_, rfl⟩
  rw [hx] at HAT hxb hxp ⊢
  simp only [hx] at *
  obtain ⟨xi, xp, xb⟩ := x
  unfold tookS
  simp only at *
  have hpb := vP_body hv
  simp only at hpb
  have VA := Lib.hid fun wx => rvalid_any i pl m bd wx
  rw [hv] at VA
  have FI := Lib.hid fun wx (hx : RJ wx F b most room (.slice (some ⟨g, 0, none⟩) l.length cap) l) => rfind_any b most room _ l i F wx hx hl
  have hf : findO l i = (k : Int) := by unfold findO; rw [hn]
  rw [hf] at FI
  have T1 := Lib.hid (TkR.start h i pl m bd)
  have HFW := Lib.hid h.few
  have RM := Lib.hid fun wx (hx : RJ wx F b most room (.slice (some ⟨g, 0, none⟩) l.length cap) l) => rremove_any b most room _ l k F wx hx hl hk
  have RB := Lib.hid fun wx (hx : RJ wx F b most room (.slice (some ⟨g, 0, none⟩) l.length cap) l) => rbytes_any b most room _ l F wx hx hl ok.body
  have hbs : (bytesO l : Int) + (bd.size : Int) ≤ 100000000 := by
    have h1 := bytesO_le ok.body
    omega
  obtain ⟨S, hS⟩ : ∃ S, bytesO l = S := ⟨_, rfl⟩
  simp only [hS] at *
  have hk0 : (0 : Int) ≤ (k : Int) := by omega
  have hk1 : (k : Int) < (l.length : Int) := by omega
  have hk2 : decide ((k : Int) < 0) = false := decide_eq_false (by omega)
  have h9 : 65536 < xb.size + bd.size ∨ room < (S : Int) + (bd.size : Int) := Or.inl hs
  rw [if_neg (fun g => g hp), if_pos h9]
  clear h9
  subst hp
  have e2 : decide ((65536 : Int) < (xb.size : Int) + (bd.size : Int)) = true := decide_eq_true (by omega)
  have hz : (xb.size : Int) + (bd.size : Int) ≤ 1000000 := by omega
  clear hs
  clear h hm hm1 hm2 hm3 hm4 hl hv hn hf ok hS hx hxb hxp hpb hk
  clear RB hbs
  go_enter Try.func18, Try.ntmps18
  go_wp2_with (first | (go_at_call 33; refine (VA.out _).mono ?_; rintro e w2 ⟨rfl, hb2⟩; have T2 := Lib.hid (T1.out.next hb2); obtain ⟨p0, p1, p2, p3⟩ := T2.out.cells; clear hb2) | (go_at_call 30; refine (FI.out _ T2.out.j).mono ?_; rintro e w3 ⟨rfl, hb3⟩; have T3 := Lib.hid (T2.out.next hb3); clear p0 p1 p2 p3; obtain ⟨p0, p1, p2, p3⟩ := T3.out.cells; obtain ⟨j0, j1, j2⟩ := T3.out.jcells; obtain ⟨q0, q1, q2⟩ := HAT.out _ T3.out.j; have T4 := Lib.hid (TkX.start T3.out xi pl xb); have y1 := T4.out.r.cells.2.1; have y2 := T4.out.r.cells.2.2.1; have y3 := T4.out.r.cells.2.2.2; have x2 := T4.out.xcells.2.2; clear hb3 T2) | (go_at_call 31; refine (RM.out _ T4.out.r.j).mono ?_; rintro e w5 ⟨rfl, hs5⟩; have HS5 := Lib.hid (RStep.after T4.out.r.below hs5); clear hs5))
  go_quiet (fail)
  have T4 := Lib.hid (T4.out.next (below_drewN' _ nq))
  go_wp2_with (first | (go_at_call 33; refine (VA.out _).mono ?_; rintro e w2 ⟨rfl, hb2⟩; have T2 := Lib.hid (T1.out.next hb2); obtain ⟨p0, p1, p2, p3⟩ := T2.out.cells; clear hb2) | (go_at_call 30; refine (FI.out _ T2.out.j).mono ?_; rintro e w3 ⟨rfl, hb3⟩; have T3 := Lib.hid (T2.out.next hb3); clear p0 p1 p2 p3; obtain ⟨p0, p1, p2, p3⟩ := T3.out.cells; obtain ⟨j0, j1, j2⟩ := T3.out.jcells; obtain ⟨q0, q1, q2⟩ := HAT.out _ T3.out.j; have T4 := Lib.hid (TkX.start T3.out xi pl xb); have y1 := T4.out.r.cells.2.1; have y2 := T4.out.r.cells.2.2.1; have y3 := T4.out.r.cells.2.2.2; have x2 := T4.out.xcells.2.2; clear hb3 T2) | (go_at_call 31; refine (RM.out _ T4.out.r.j).mono ?_; rintro e w5 ⟨rfl, hs5⟩; have HS5 := Lib.hid (RStep.after T4.out.r.below hs5); clear hs5))
  go_ret3
  exact ⟨rfl, HS5.out⟩

set_option maxRecDepth 100000 in
set_option maxHeartbeats 1000000 in
theorem rtake_s3 (b : Nat) (most room : Int) (sv : Value) (l : List Op) (p : Pc) (F : Nat → Prop) (w : World) (h : RJ w F b most room sv l) (ok : OpsOk most l) (hm : limB most room = true) (hv : vP p = true) (k : Nat) (hk : k < l.length) (hn : idxO l p.id = some k) (hp : p.place = l[k].pieces) (hs : ¬ 65536 < l[k].body.size + p.body.size) (hq : room < (bytesO l : Int) + (p.body.size : Int)) :
    Calls Try.prog 18 #[.pointer (some ⟨b, 0, none⟩), .agg #[.int .i64 p.id, .int .i64 p.place, .bool p.more, .string p.body]] w (RTakeP w F b most room (took most room l p)) := by
  obtain ⟨i, pl, m, bd⟩ := p
  have hr : took most room l ⟨i, pl, m, bd⟩ = tookS room l ⟨i, pl, m, bd⟩ k l[k] := by
    unfold took
    rw [if_pos hv]
    simp only [hn, getD_at hk]
  rw [hr]
  clear hr
  obtain ⟨g, cap, rfl, _⟩ := h.form.2 k hk
  have HAT := Lib.hid fun wx (hx : RJ wx F b most room (.slice (some ⟨g, 0, none⟩) l.length cap) l) => (hx.at hk).2
  obtain ⟨hm1, hm2, hm3, hm4⟩ := limB_spec hm
  have hl : l.length ≤ 100 := by have := ok.few; omega
  have hxb := ok.body l[k] (List.getElem_mem hk)
  have hxp := ok.pieces l[k] (List.getElem_mem hk)
  obtain ⟨x, hx⟩ : ∃ x, l[k] = x := ⟨_, rfl⟩
  rw [hx] at HAT hxb hxp ⊢
  simp only [hx] at *
  obtain ⟨xi, xp, xb⟩ := x
  unfold tookS
  simp only at *
  have hpb := vP_body hv
  simp only at hpb
  have VA := Lib.hid fun wx => rvalid_any i pl m bd wx
  rw [hv] at VA
  have FI := Lib.hid fun wx (hx : RJ wx F b most room (.slice (some ⟨g, 0, none⟩) l.length cap) l) => rfind_any b most room _ l i F wx hx hl
  have hf : findO l i = (k : Int) := by unfold findO; rw [hn]
  rw [hf] at FI
  have T1 := Lib.hid (TkR.start h i pl m bd)
  have HFW := Lib.hid h.few
  have RM := Lib.hid fun wx (hx : RJ wx F b most room (.slice (some ⟨g, 0, none⟩) l.length cap) l) => rremove_any b most room _ l k F wx hx hl hk
  have RB := Lib.hid fun wx (hx : RJ wx F b most room (.slice (some ⟨g, 0, none⟩) l.length cap) l) => rbytes_any b most room _ l F wx hx hl ok.body
  have hbs : (bytesO l : Int) + (bd.size : Int) ≤ 100000000 := by
    have h1 := bytesO_le ok.body
    omega
  obtain ⟨S, hS⟩ : ∃ S, bytesO l = S := ⟨_, rfl⟩
  simp only [hS] at *
  have hk0 : (0 : Int) ≤ (k : Int) := by omega
  have hk1 : (k : Int) < (l.length : Int) := by omega
  have hk2 : decide ((k : Int) < 0) = false := decide_eq_false (by omega)
  have h9 : 65536 < xb.size + bd.size ∨ room < (S : Int) + (bd.size : Int) := Or.inr hq
  rw [if_neg (fun g => g hp), if_pos h9]
  clear h9
  subst hp
  have e2 : decide ((65536 : Int) < (xb.size : Int) + (bd.size : Int)) = false := decide_eq_false (by omega)
  have e3 : decide (room < (S : Int) + (bd.size : Int)) = true := decide_eq_true hq
  have hz : (xb.size : Int) + (bd.size : Int) ≤ 1000000 := by omega
  clear hs hq
  clear h hm hm1 hm2 hm3 hm4 hl hv hn hf ok hS hx hxb hxp hpb hk
  go_enter Try.func18, Try.ntmps18
  go_wp2_with (first | (go_at_call 33; refine (VA.out _).mono ?_; rintro e w2 ⟨rfl, hb2⟩; have T2 := Lib.hid (T1.out.next hb2); obtain ⟨p0, p1, p2, p3⟩ := T2.out.cells; clear hb2) | (go_at_call 30; refine (FI.out _ T2.out.j).mono ?_; rintro e w3 ⟨rfl, hb3⟩; have T3 := Lib.hid (T2.out.next hb3); clear p0 p1 p2 p3; obtain ⟨p0, p1, p2, p3⟩ := T3.out.cells; obtain ⟨j0, j1, j2⟩ := T3.out.jcells; obtain ⟨q0, q1, q2⟩ := HAT.out _ T3.out.j; have T4 := Lib.hid (TkX.start T3.out xi pl xb); have y1 := T4.out.r.cells.2.1; have y2 := T4.out.r.cells.2.2.1; have y3 := T4.out.r.cells.2.2.2; have x2 := T4.out.xcells.2.2; clear hb3 T2))
  have w4n : Hid (Below w3.heap.size w3 (w3.alloc (opO xi pl xb))) := Lib.hid ((Below.refl _ _).alloc (Nat.le_refl _) _)
  clear p0 p1 p2 p3 j0 j1 j2 q0 q1 q2 y1 y2 y3 x2
  obtain ⟨w4, hw4⟩ : ∃ x, w3.alloc (opO xi pl xb) = x := ⟨_, rfl⟩
  rw [show w3.alloc (Obj.cells #[Value.int .i64 xi, Value.int .i64 pl, Value.string xb] 72) = w4 from hw4]
  rw [hw4] at T4
  clear hw4 w4n
  have p3 := cell_regrown T4.out.r.cells.2.2.2
  have x2 := cell_regrown T4.out.xcells.2.2
  have j1 := cell_regrown T4.out.r.jcells.2.1
  have cV : Hid (∀ d os, Calls Try.prog 22 #[.pointer (some ⟨b, 0, none⟩)] (grow (redrawn w4 d) os) fun e w'' => e = .returned (.int .i64 S) ∧ ∃ p : Regrown, w'' = grow (redrawn w4 p.d) p.os) := Lib.hid fun d os => Calls.regrown_of (RB.out _ (T4.out.r.j.below (below_regrown w4 d os)))
  refine wp_region_quiet_below (by kernel_rfl) (by kernel_rfl) ?_
  repeat (go_big_quiet_step (exact cV.out _ _))
  refine wpQuiet_nil ?_
  intro _ hw'
  obtain ⟨⟨dq, osq⟩, hw''⟩ := hw'
  subst hw''
  have T5 := Lib.hid (T4.out.next (below_regrown w4 dq osq))
  clear p3 x2 j1 cV T4
  obtain ⟨w5, hw5⟩ : ∃ x, grow (redrawn w4 dq) osq = x := ⟨_, rfl⟩
  rw [hw5] at T5 ⊢
  clear hw5
  go_wp2_with (go_at_call 31; refine (RM.out _ T5.out.r.j).mono ?_; rintro e w6 ⟨rfl, hs5⟩; obtain ⟨z2, z3⟩ := T5.out.far HFW.out hs5; have HS5 := Lib.hid (RStep.after T5.out.r.below hs5); clear hs5)
  go_ret3
  exact ⟨rfl, HS5.out⟩

set_option maxRecDepth 100000 in
set_option maxHeartbeats 1000000 in
theorem rtake_s4 (b : Nat) (most room : Int) (sv : Value) (l : List Op) (p : Pc) (F : Nat → Prop) (w : World) (h : RJ w F b most room sv l) (ok : OpsOk most l) (hm : limB most room = true) (hv : vP p = true) (k : Nat) (hk : k < l.length) (hn : idxO l p.id = some k) (hp : p.place = l[k].pieces) (hs : ¬ 65536 < l[k].body.size + p.body.size) (hq : ¬ room < (bytesO l : Int) + (p.body.size : Int)) (hmo : p.more = false) :
    Calls Try.prog 18 #[.pointer (some ⟨b, 0, none⟩), .agg #[.int .i64 p.id, .int .i64 p.place, .bool p.more, .string p.body]] w (RTakeP w F b most room (took most room l p)) := by
  obtain ⟨i, pl, m, bd⟩ := p
  have hr : took most room l ⟨i, pl, m, bd⟩ = tookS room l ⟨i, pl, m, bd⟩ k l[k] := by
    unfold took
    rw [if_pos hv]
    simp only [hn, getD_at hk]
  rw [hr]
  clear hr
  obtain ⟨g, cap, rfl, _⟩ := h.form.2 k hk
  have HAT := Lib.hid fun wx (hx : RJ wx F b most room (.slice (some ⟨g, 0, none⟩) l.length cap) l) => (hx.at hk).2
  obtain ⟨hm1, hm2, hm3, hm4⟩ := limB_spec hm
  have hl : l.length ≤ 100 := by have := ok.few; omega
  have hxb := ok.body l[k] (List.getElem_mem hk)
  have hxp := ok.pieces l[k] (List.getElem_mem hk)
  obtain ⟨x, hx⟩ : ∃ x, l[k] = x := ⟨_, rfl⟩
  rw [hx] at HAT hxb hxp ⊢
  simp only [hx] at *
  obtain ⟨xi, xp, xb⟩ := x
  unfold tookS
  simp only at *
  have hpb := vP_body hv
  simp only at hpb
  have VA := Lib.hid fun wx => rvalid_any i pl m bd wx
  rw [hv] at VA
  have FI := Lib.hid fun wx (hx : RJ wx F b most room (.slice (some ⟨g, 0, none⟩) l.length cap) l) => rfind_any b most room _ l i F wx hx hl
  have hf : findO l i = (k : Int) := by unfold findO; rw [hn]
  rw [hf] at FI
  have T1 := Lib.hid (TkR.start h i pl m bd)
  have HFW := Lib.hid h.few
  have RM := Lib.hid fun wx (hx : RJ wx F b most room (.slice (some ⟨g, 0, none⟩) l.length cap) l) => rremove_any b most room _ l k F wx hx hl hk
  have RB := Lib.hid fun wx (hx : RJ wx F b most room (.slice (some ⟨g, 0, none⟩) l.length cap) l) => rbytes_any b most room _ l F wx hx hl ok.body
  have hbs : (bytesO l : Int) + (bd.size : Int) ≤ 100000000 := by
    have h1 := bytesO_le ok.body
    omega
  obtain ⟨S, hS⟩ : ∃ S, bytesO l = S := ⟨_, rfl⟩
  simp only [hS] at *
  have hk0 : (0 : Int) ≤ (k : Int) := by omega
  have hk1 : (k : Int) < (l.length : Int) := by omega
  have hk2 : decide ((k : Int) < 0) = false := decide_eq_false (by omega)
  subst hmo
  rw [if_neg (fun g => g hp), if_neg (fun g => g.elim hs hq), if_pos rfl]
  subst hp
  have e2 : decide ((65536 : Int) < (xb.size : Int) + (bd.size : Int)) = false := decide_eq_false (by omega)
  have e3 : decide (room < (S : Int) + (bd.size : Int)) = false := decide_eq_false hq
  have hz : (xb.size : Int) + (bd.size : Int) ≤ 1000000 := by omega
  have HZ : Hid (xb.size + bd.size ≤ 1000000) := Lib.hid (by omega)
  clear hs hq
  clear h hm hm1 hm2 hm3 hm4 hl hv hn hf ok hS hx hxb hxp hpb hk
  go_enter Try.func18, Try.ntmps18
  go_wp2_with (first | (go_at_call 33; refine (VA.out _).mono ?_; rintro e w2 ⟨rfl, hb2⟩; have T2 := Lib.hid (T1.out.next hb2); obtain ⟨p0, p1, p2, p3⟩ := T2.out.cells; clear hb2) | (go_at_call 30; refine (FI.out _ T2.out.j).mono ?_; rintro e w3 ⟨rfl, hb3⟩; have T3 := Lib.hid (T2.out.next hb3); clear p0 p1 p2 p3; obtain ⟨p0, p1, p2, p3⟩ := T3.out.cells; obtain ⟨j0, j1, j2⟩ := T3.out.jcells; obtain ⟨q0, q1, q2⟩ := HAT.out _ T3.out.j; have T4 := Lib.hid (TkX.start T3.out xi pl xb); have y1 := T4.out.r.cells.2.1; have y2 := T4.out.r.cells.2.2.1; have y3 := T4.out.r.cells.2.2.2; have x2 := T4.out.xcells.2.2; clear hb3 T2))
  have w4n : Hid (Below w3.heap.size w3 (w3.alloc (opO xi pl xb))) := Lib.hid ((Below.refl _ _).alloc (Nat.le_refl _) _)
  clear p0 p1 p2 p3 j0 j1 j2 q0 q1 q2 y1 y2 y3 x2
  obtain ⟨w4, hw4⟩ : ∃ x, w3.alloc (opO xi pl xb) = x := ⟨_, rfl⟩
  rw [show w3.alloc (Obj.cells #[Value.int .i64 xi, Value.int .i64 pl, Value.string xb] 72) = w4 from hw4]
  rw [hw4] at T4
  clear hw4 w4n
  have p3 := cell_regrown T4.out.r.cells.2.2.2
  have x2 := cell_regrown T4.out.xcells.2.2
  have j1 := cell_regrown T4.out.r.jcells.2.1
  have cV : Hid (∀ d os, Calls Try.prog 22 #[.pointer (some ⟨b, 0, none⟩)] (grow (redrawn w4 d) os) fun e w'' => e = .returned (.int .i64 S) ∧ ∃ p : Regrown, w'' = grow (redrawn w4 p.d) p.os) := Lib.hid fun d os => Calls.regrown_of (RB.out _ (T4.out.r.j.below (below_regrown w4 d os)))
  refine wp_region_quiet_below (by kernel_rfl) (by kernel_rfl) ?_
  repeat (go_big_quiet_step (exact cV.out _ _))
  refine wpQuiet_nil ?_
  intro _ hw'
  obtain ⟨⟨dq, osq⟩, hw''⟩ := hw'
  subst hw''
  have T5 := Lib.hid (T4.out.next (below_regrown w4 dq osq))
  clear p3 x2 j1 cV T4
  obtain ⟨w5, hw5⟩ : ∃ x, grow (redrawn w4 dq) osq = x := ⟨_, rfl⟩
  rw [hw5] at T5 ⊢
  clear hw5
  have y2 := T5.out.r.cells.2.2.1
  have hz2 : ¬ 9223372036854775807 < xb.size + bd.size := by have := HZ.out; omega
  go_wp2_with (go_at_call 31; refine (RM.out _ T5.out.r.j).mono ?_; rintro e w6 ⟨rfl, hs5⟩; obtain ⟨z2, z3⟩ := T5.out.far HFW.out hs5; have HS5 := Lib.hid (RStep.after T5.out.r.below hs5); clear hs5)
  go_ret3
  exact ⟨rfl, HS5.out⟩

end Go.Proofs.Yteblbpdpfegooaa
