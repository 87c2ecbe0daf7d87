/- The reference's Take of a message that is not open. -/
import Derived.Test.YteblbpdpfegooaaJd
import Derived.Deep.RegionHeld3
import Derived.Deep.DrawnRows
namespace Go.Proofs.Yteblbpdpfegooaa
open Go.RowKit Go.Sort Go.BigFrame
attribute [local go_sem ↓] Go.wp_at_zero Go.wp_at_succ

theorem vP_body {p : Pc} (h : vP p = true) : p.body.size ≤ 65536 := by
  simp only [vP, Bool.and_eq_true, decide_eq_true_eq] at h
  exact h.2.2.1

/-- What Take of the reference returns. -/
def RTakeP (w : World) (F : Nat → Prop) (b : Nat) (most room : Int) (r : Took) (e : Ending) (w' : World) : Prop :=
  e = .returned (.tuple #[.string r.body, .bool r.whole, .int .i64 r.er]) ∧ RStep w F b most room r.l w'

/-- In a call of Take: the piece lies in its own block P. -/
structure TkR (w W : World) (F : Nat → Prop) (b : Nat) (most room : Int) (sv : Value) (l : List Op) (p : Pc) (P : Nat) : Prop where
  blk : W.heap[P]? = some (pcO p.id p.place p.more p.body)
  j : RJ W F b most room sv l
  below : Below w.heap.size w W
  pP : P = w.heap.size
  bP : b < P

theorem TkR.next {w W W' : World} {F : Nat → Prop} {b : Nat} {most room : Int} {sv : Value} {l : List Op} {p : Pc} {P : Nat} (h : TkR w W F b most room sv l p P) (hb : Below W.heap.size W W') : TkR w W' F b most room sv l p P :=
  ⟨(hb.block _ (Array.getElem?_eq_some_iff.1 h.blk).1).trans h.blk, h.j.below hb, h.below.trans (hb.mono h.below.size), h.pP, h.bP⟩

theorem TkR.start {w : World} {F : Nat → Prop} {b : Nat} {most room : Int} {sv : Value} {l : List Op} (h : RJ w F b most room sv l) (i pl : Int) (m : Bool) (bd : ByteArray) : TkR w (w.alloc (pcO i pl m bd)) F b most room sv l ⟨i, pl, m, bd⟩ w.heap.size :=
  ⟨heap_alloc_new _ _, h.below ((Below.refl _ _).alloc (Nat.le_refl _) _), (Below.refl _ _).alloc (Nat.le_refl _) _, rfl, h.few _ h.fb⟩

theorem TkR.cells {w W : World} {F : Nat → Prop} {b : Nat} {most room : Int} {sv : Value} {l : List Op} {p : Pc} {P : Nat} (h : TkR w W F b most room sv l p P) :
    W.cell? ⟨P, 0, none⟩ = some (.int .i64 p.id) ∧ W.cell? ⟨P, 1, none⟩ = some (.int .i64 p.place) ∧ W.cell? ⟨P, 2, none⟩ = some (.bool p.more) ∧ W.cell? ⟨P, 3, none⟩ = some (.string p.body) :=
  ⟨cells_at h.blk 0, cells_at h.blk 1, cells_at h.blk 2, cells_at h.blk 3⟩

theorem TkR.jcells {w W : World} {F : Nat → Prop} {b : Nat} {most room : Int} {sv : Value} {l : List Op} {p : Pc} {P : Nat} (h : TkR w W F b most room sv l p P) :
    W.cell? ⟨b, 0, none⟩ = some (.int .i64 most) ∧ W.cell? ⟨b, 1, none⟩ = some (.int .i64 room) ∧ W.cell? ⟨b, 2, none⟩ = some sv :=
  ⟨cells_at h.j.blk 0, cells_at h.j.blk 1, cells_at h.j.blk 2⟩

theorem TkR.same {w W : World} {F : Nat → Prop} {b : Nat} {most room : Int} {sv : Value} {l : List Op} {p : Pc} {P : Nat} (h : TkR w W F b most room sv l p P) : RStep w F b most room l W :=
  ⟨F, sv, h.j, fun _ g => .inl g, But.of_below h.below⟩

set_option maxRecDepth 100000 in
set_option maxHeartbeats 4000000 in
theorem rtake_bad (b : Nat) (most room : Int) (sv : Value) (l : List Op) (p : Pc) (F : Nat → Prop) (w : World) (h : RJ w F b most room sv l) (ok : OpsOk most l) (hm : limB most room = true) (hv : vP p = false) :
    Calls Try.prog 18 #[.pointer (some ⟨b, 0, none⟩), .agg #[.int .i64 p.id, .int .i64 p.place, .bool p.more, .string p.body]] w (RTakeP w F b most room (took most room l p)) := by
  obtain ⟨i, pl, m, bd⟩ := p
  simp only at *
  obtain ⟨hm1, hm2, hm3, hm4⟩ := limB_spec hm
  have hl : l.length ≤ 100 := by have := ok.few; omega
  have VA := Lib.hid fun wx => rvalid_any i pl m bd wx
  have FI := Lib.hid fun wx (hx : RJ wx F b most room sv l) => rfind_any b most room sv l i F wx hx hl
  have T1 := Lib.hid (TkR.start h i pl m bd)
  have HH := Lib.hid h
  have hbP : Hid (b < w.heap.size) := Lib.hid (h.few _ h.fb)
  rw [hv] at VA
  have hr : took most room l ⟨i, pl, m, bd⟩ = ⟨l, ⟨#[]⟩, false, 1⟩ := by unfold took; rw [if_neg (by rw [hv]; decide)]
  rw [hr]
  clear h hm hm1 hm2 hm3 hm4 hl hv hr ok
  go_enter Try.func18, Try.ntmps18
  go_wp2_with (go_at_call 33; refine (VA.out _).mono ?_; rintro e w2 ⟨rfl, hb2⟩; have T2 := Lib.hid (T1.out.next hb2); obtain ⟨p0, p1, p2, p3⟩ := T2.out.cells; clear hb2)
  go_ret3
  exact ⟨rfl, T2.out.same⟩

set_option maxRecDepth 100000 in
set_option maxHeartbeats 4000000 in
theorem rtake_n1 (b : Nat) (most room : Int) (sv : Value) (l : List Op) (p : Pc) (F : Nat → Prop) (w : World) (h : RJ w F b most room sv l) (ok : OpsOk most l) (hm : limB most room = true) (hv : vP p = true) (hn : idxO l p.id = none) (hp : ¬ p.place = 0) :
    Calls Try.prog 18 #[.pointer (some ⟨b, 0, none⟩), .agg #[.int .i64 p.id, .int .i64 p.place, .bool p.more, .string p.body]] w (RTakeP w F b most room (took most room l p)) := by
  obtain ⟨i, pl, m, bd⟩ := p
  simp only at *
  obtain ⟨hm1, hm2, hm3, hm4⟩ := limB_spec hm
  have hl : l.length ≤ 100 := by have := ok.few; omega
  have VA := Lib.hid fun wx => rvalid_any i pl m bd wx
  have FI := Lib.hid fun wx (hx : RJ wx F b most room sv l) => rfind_any b most room sv l i F wx hx hl
  have T1 := Lib.hid (TkR.start h i pl m bd)
  have HH := Lib.hid h
  have hbP : Hid (b < w.heap.size) := Lib.hid (h.few _ h.fb)
  rw [hv] at VA
  have hf : findO l i = -1 := by unfold findO; rw [hn]
  rw [hf] at FI
  have hr : took most room l ⟨i, pl, m, bd⟩ = ⟨l, ⟨#[]⟩, false, 9⟩ := by
    unfold took
    rw [if_pos hv]
    simp only [hn, tookN]
    simp [hp]
  rw [hr]
  have e1 : decide (pl = 0) = false := decide_eq_false hp
  clear h hm hm1 hm2 hm3 hm4 hl hv hr hn hf ok
  go_enter Try.func18, Try.ntmps18
  go_wp2_with (first | (go_at_call 33; refine (VA.out _).mono ?_; rintro e w2 ⟨rfl, hb2⟩; have T2 := Lib.hid (T1.out.next hb2); obtain ⟨p0, p1, p2, p3⟩ := T2.out.cells; clear hb2) | (go_at_call 30; refine (FI.out _ T2.out.j).mono ?_; rintro e w3 ⟨rfl, hb3⟩; have T3 := Lib.hid (T2.out.next hb3); clear p0 p1 p2 p3; obtain ⟨p0, p1, p2, p3⟩ := T3.out.cells; obtain ⟨j0, j1, j2⟩ := T3.out.jcells; clear hb3 T2))
  go_ret3
  exact ⟨rfl, T3.out.same⟩

set_option maxRecDepth 100000 in
set_option maxHeartbeats 4000000 in
theorem rtake_n2 (b : Nat) (most room : Int) (sv : Value) (l : List Op) (p : Pc) (F : Nat → Prop) (w : World) (h : RJ w F b most room sv l) (ok : OpsOk most l) (hm : limB most room = true) (hv : vP p = true) (hn : idxO l p.id = none) (hp : p.place = 0) (hmo : p.more = false) (hs : room < (p.body.size : Int)) :
    Calls Try.prog 18 #[.pointer (some ⟨b, 0, none⟩), .agg #[.int .i64 p.id, .int .i64 p.place, .bool p.more, .string p.body]] w (RTakeP w F b most room (took most room l p)) := by
  obtain ⟨i, pl, m, bd⟩ := p
  simp only at *
  obtain ⟨hm1, hm2, hm3, hm4⟩ := limB_spec hm
  have hl : l.length ≤ 100 := by have := ok.few; omega
  have VA := Lib.hid fun wx => rvalid_any i pl m bd wx
  have FI := Lib.hid fun wx (hx : RJ wx F b most room sv l) => rfind_any b most room sv l i F wx hx hl
  have T1 := Lib.hid (TkR.start h i pl m bd)
  have HH := Lib.hid h
  have hbP : Hid (b < w.heap.size) := Lib.hid (h.few _ h.fb)
  rw [hv] at VA
  have hf : findO l i = -1 := by unfold findO; rw [hn]
  rw [hf] at FI
  subst hmo
  have hr : took most room l ⟨i, pl, false, bd⟩ = ⟨l, ⟨#[]⟩, false, 11⟩ := by
    unfold took
    rw [if_pos hv]
    simp only [hn, tookN]
    simp [hp, hs]
  rw [hr]
  subst hp
  have e1 : decide (room < (bd.size : Int)) = true := decide_eq_true hs
  clear h hm hm1 hm2 hm3 hm4 hl hv hr hn hf ok
  go_enter Try.func18, Try.ntmps18
  go_wp2_with (first | (go_at_call 33; refine (VA.out _).mono ?_; rintro e w2 ⟨rfl, hb2⟩; have T2 := Lib.hid (T1.out.next hb2); obtain ⟨p0, p1, p2, p3⟩ := T2.out.cells; clear hb2) | (go_at_call 30; refine (FI.out _ T2.out.j).mono ?_; rintro e w3 ⟨rfl, hb3⟩; have T3 := Lib.hid (T2.out.next hb3); clear p0 p1 p2 p3; obtain ⟨p0, p1, p2, p3⟩ := T3.out.cells; obtain ⟨j0, j1, j2⟩ := T3.out.jcells; clear hb3 T2))
  go_quiet (fail)
  go_wp2_with fail
  go_ret3
  exact ⟨rfl, (T3.out.next (below_drewN' _ _)).same⟩

set_option maxRecDepth 100000 in
set_option maxHeartbeats 4000000 in
theorem rtake_n4 (b : Nat) (most room : Int) (sv : Value) (l : List Op) (p : Pc) (F : Nat → Prop) (w : World) (h : RJ w F b most room sv l) (ok : OpsOk most l) (hm : limB most room = true) (hv : vP p = true) (hn : idxO l p.id = none) (hp : p.place = 0) (hmo : p.more = false) (hs : ¬ room < (p.body.size : Int)) :
    Calls Try.prog 18 #[.pointer (some ⟨b, 0, none⟩), .agg #[.int .i64 p.id, .int .i64 p.place, .bool p.more, .string p.body]] w (RTakeP w F b most room (took most room l p)) := by
  obtain ⟨i, pl, m, bd⟩ := p
  simp only at *
  obtain ⟨hm1, hm2, hm3, hm4⟩ := limB_spec hm
  have hl : l.length ≤ 100 := by have := ok.few; omega
  have VA := Lib.hid fun wx => rvalid_any i pl m bd wx
  have FI := Lib.hid fun wx (hx : RJ wx F b most room sv l) => rfind_any b most room sv l i F wx hx hl
  have T1 := Lib.hid (TkR.start h i pl m bd)
  have HH := Lib.hid h
  have hbP : Hid (b < w.heap.size) := Lib.hid (h.few _ h.fb)
  rw [hv] at VA
  have hf : findO l i = -1 := by unfold findO; rw [hn]
  rw [hf] at FI
  subst hmo
  have hr : took most room l ⟨i, pl, false, bd⟩ = ⟨l, bd, true, 0⟩ := by
    unfold took
    rw [if_pos hv]
    simp only [hn, tookN]
    simp [hp, hs]
  rw [hr]
  subst hp
  have e1 : decide (room < (bd.size : Int)) = false := decide_eq_false hs
  clear h hm hm1 hm2 hm3 hm4 hl hv hr hn hf ok
  go_enter Try.func18, Try.ntmps18
  go_wp2_with (first | (go_at_call 33; refine (VA.out _).mono ?_; rintro e w2 ⟨rfl, hb2⟩; have T2 := Lib.hid (T1.out.next hb2); obtain ⟨p0, p1, p2, p3⟩ := T2.out.cells; clear hb2) | (go_at_call 30; refine (FI.out _ T2.out.j).mono ?_; rintro e w3 ⟨rfl, hb3⟩; have T3 := Lib.hid (T2.out.next hb3); clear p0 p1 p2 p3; obtain ⟨p0, p1, p2, p3⟩ := T3.out.cells; obtain ⟨j0, j1, j2⟩ := T3.out.jcells; clear hb3 T2))
  go_quiet (fail)
  go_wp2_with fail
  go_quiet (fail)
  go_wp2_with fail
  go_ret3
  exact ⟨rfl, (T3.out.next (below_drewN' _ _)).same⟩

set_option maxRecDepth 100000 in
set_option maxHeartbeats 4000000 in
theorem rtake_n3 (b : Nat) (most room : Int) (sv : Value) (l : List Op) (p : Pc) (F : Nat → Prop) (w : World) (h : RJ w F b most room sv l) (ok : OpsOk most l) (hm : limB most room = true) (hv : vP p = true) (hn : idxO l p.id = none) (hp : p.place = 0) (hmo : p.more = true) (hs : room < (bytesO l : Int) + (p.body.size : Int)) :
    Calls Try.prog 18 #[.pointer (some ⟨b, 0, none⟩), .agg #[.int .i64 p.id, .int .i64 p.place, .bool p.more, .string p.body]] w (RTakeP w F b most room (took most room l p)) := by
  obtain ⟨i, pl, m, bd⟩ := p
  simp only at *
  obtain ⟨hm1, hm2, hm3, hm4⟩ := limB_spec hm
  have hl : l.length ≤ 100 := by have := ok.few; omega
  have VA := Lib.hid fun wx => rvalid_any i pl m bd wx
  have FI := Lib.hid fun wx (hx : RJ wx F b most room sv l) => rfind_any b most room sv l i F wx hx hl
  have T1 := Lib.hid (TkR.start h i pl m bd)
  have HH := Lib.hid h
  have hbP : Hid (b < w.heap.size) := Lib.hid (h.few _ h.fb)
  rw [hv] at VA
  have hf : findO l i = -1 := by unfold findO; rw [hn]
  rw [hf] at FI
  subst hmo
  have hr : took most room l ⟨i, pl, true, bd⟩ = ⟨l, ⟨#[]⟩, false, 11⟩ := by
    unfold took
    rw [if_pos hv]
    simp only [hn, tookN]
    simp [hp, hs]
  rw [hr]
  subst hp
  skip
  have RB := Lib.hid fun wx (hx : RJ wx F b most room sv l) => rbytes_any b most room sv l F wx hx hl ok.body
  have hbs : (bytesO l : Int) + (bd.size : Int) ≤ 100000000 := by
    have h1 := bytesO_le ok.body
    have h2 := vP_body hv
    simp only at h2
    omega
  obtain ⟨S, hS⟩ : ∃ S, bytesO l = S := ⟨_, rfl⟩
  rw [hS] at RB hs hbs
  have e1 : decide (room < (S : Int) + (bd.size : Int)) = true := decide_eq_true hs
  clear h hm hm1 hm2 hm3 hm4 hl hv hr hn hf hS
  go_enter Try.func18, Try.ntmps18
  go_wp2_with (first | (go_at_call 33; refine (VA.out _).mono ?_; rintro e w2 ⟨rfl, hb2⟩; have T2 := Lib.hid (T1.out.next hb2); obtain ⟨p0, p1, p2, p3⟩ := T2.out.cells; clear hb2) | (go_at_call 30; refine (FI.out _ T2.out.j).mono ?_; rintro e w3 ⟨rfl, hb3⟩; have T3 := Lib.hid (T2.out.next hb3); clear p0 p1 p2 p3; obtain ⟨p0, p1, p2, p3⟩ := T3.out.cells; obtain ⟨j0, j1, j2⟩ := T3.out.jcells; clear hb3 T2))
  go_quiet (fail)
  go_wp2_with fail
  clear p0 p1 p2 p3 j0 j1 j2
  have T4 := Lib.hid (T3.out.next (below_drewN' w3 nq))
  clear T3
  obtain ⟨w4, hw4⟩ : ∃ x, w3.drewN nq = x := ⟨_, rfl⟩
  rw [hw4] at T4
  have p0 := cell_regrown T4.out.cells.1
  have p2 := cell_regrown T4.out.cells.2.2.1
  have p3 := cell_regrown T4.out.cells.2.2.2
  have j1 := cell_regrown T4.out.jcells.2.1
  have cV : Hid (∀ d os, Calls Try.prog 22 #[.pointer (some ⟨b, 0, none⟩)] (grow (redrawn w4 d) os) fun e w'' => e = .returned (.int .i64 S) ∧ ∃ p : Regrown, w'' = grow (redrawn w4 p.d) p.os) := Lib.hid fun d os => Calls.regrown_of (RB.out _ (T4.out.j.below (below_regrown w4 d os)))
  rw [hw4]
  clear hw4
  refine wp_region_quiet_below (by kernel_rfl) (by kernel_rfl) ?_
  repeat (go_big_quiet_step (exact cV.out _ _))
  refine wpQuiet_nil ?_
  intro _ hw'
  obtain ⟨⟨dq, osq⟩, hw''⟩ := hw'
  subst hw''
  have T5 := Lib.hid (T4.out.next (below_regrown w4 dq osq))
  clear p0 p2 p3 j1 cV
  go_wp2_with fail
  go_ret3
  exact ⟨rfl, T5.out.same⟩

end Go.Proofs.Yteblbpdpfegooaa
