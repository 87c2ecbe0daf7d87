/- The reference's Take of a message that is not open: it is full, or one more is open. -/
import Derived.Test.YteblbpdpfegooaaJe
import Derived.Test.YteblbpdpfegooaaRg
namespace Go.Proofs.Yteblbpdpfegooaa
open Go.RowKit Go.Sort Go.BigFrame
attribute [local go_sem ↓] Go.wp_at_zero Go.wp_at_succ

theorem frozen_at {W : World} {g : Nat} {cs : Array Value} {t : TypeId} (h : W.heap[g]? = some (.cells cs t (0, 0))) (i : Nat) : W.frozen? ⟨g, i, none⟩ = false := by simp [World.frozen?, h]

section
variable {w W w7 : World} {F : Nat → Prop} {b : Nat} {most room : Int} {sv : Value} {l : List Op} {p : Pc} {P : Nat} {o : Obj}

theorem TkR.blk7 (h : TkR w W F b most room sv l p P) (hg : (W.alloc o).grownBy w7 sv.ownBlock) : w7.heap[b]? = some (.cells #[.int .i64 most, .int .i64 room, sv] 63 (0, 0)) := by
  have hb := h.j.few _ h.j.fb
  exact (hg.block b (by simp; omega) fun e => (h.j.frow b e.symm).2 rfl).trans ((Below.heap_alloc _ _ _ hb).trans h.j.blk)

theorem TkR.pc7 (h : TkR w W F b most room sv l p P) (hF : ∀ k, F k → k < w.heap.size) (hg : (W.alloc o).grownBy w7 sv.ownBlock) : w7.heap[P]? = some (pcO p.id p.place p.more p.body) := by
  have hb := (Array.getElem?_eq_some_iff.1 h.blk).1
  exact (hg.block P (by simp; omega) fun e => by have := hF P (h.j.frow P e.symm).1; have := h.pP; omega).trans ((Below.heap_alloc _ _ _ hb).trans h.blk)

/-- What the region reads. -/
structure TkS (W : World) (P b : Nat) (sv : Value) (i : Int) (bd : ByteArray) : Prop where
  s0 : W.cell? ⟨P, 0, none⟩ = some (.int .i64 i)
  s3 : W.cell? ⟨P, 3, none⟩ = some (.string bd)
  s2 : W.cell? ⟨b, 2, none⟩ = some sv

theorem TkS.below {W W' : World} {P b : Nat} {sv : Value} {i : Int} {bd : ByteArray} (h : TkS W P b sv i bd) (hb : Below W.heap.size W W') : TkS W' P b sv i bd :=
  ⟨(hb.cell (World.block_lt_of_cell? _ _ h.s0)).trans h.s0, (hb.cell (World.block_lt_of_cell? _ _ h.s3)).trans h.s3, (hb.cell (World.block_lt_of_cell? _ _ h.s2)).trans h.s2⟩

/-- One more message is open. -/
theorem RStep.grow (h : TkR w W F b most room sv l p P) (hg : (W.alloc o).grownBy w7 sv.ownBlock) {x : Op} {g cap : Nat}
    (ho : w7.ownsRow 0 72 3 (.slice (some ⟨g, 0, none⟩) (l.length + 1) cap) (l.length + 1) (opCells l ++ [.int .i64 x.id, .int .i64 x.pieces, .string x.body])) (hat : sv.ownBlock = some g ∨ g = W.heap.size + 1) (hlt : g < w7.heap.size) :
    RStep w F b most room (l ++ [x]) (w7.setCell ⟨b, 2, none⟩ (.slice (some ⟨g, 0, none⟩) (l.length + 1) cap)) := by
  have hb := h.j.few _ h.j.fb
  have hgb : g ≠ b := by
    rcases hat with hat | hat
    · exact (h.j.frow g hat).2
    · omega
  have hFg : F g ∨ w.heap.size ≤ g := by
    rcases hat with hat | hat
    · exact .inl (h.j.frow g hat).1
    · right; have := h.below.size; omega
  refine ⟨fun k => k = b ∨ k = g, _, ⟨RJ.set2 _ (h.blk7 hg), ?_, .inl rfl, fun k hk => ?_, ?_⟩, ?_, ?_⟩
  · rw [List.length_append, List.length_singleton, opCells_snoc]
    refine ⟨ho.1, ?_⟩
    rcases ho.2 with ⟨hn, _⟩ | ⟨g', cap', cur, hv, h0, hgg, rest⟩
    · simp at hn
    · refine .inr ⟨g', cap', cur, hv, h0, (Below.heap_setCell _ _ _ _ ?_).trans hgg, rest⟩
      simp only [Value.slice.injEq, Option.some.injEq, Addr.mk.injEq] at hv
      simp only
      omega
  · have hk' : g = k := Option.some.inj hk
    subst hk'
    exact ⟨.inr rfl, hgb⟩
  · rintro k (rfl | rfl)
    · have := hg.size; simp [World.setCell] at this ⊢; omega
    · simpa [World.setCell] using hlt
  · rintro k (rfl | rfl)
    · exact .inl h.j.fb
    · exact hFg
  · refine (But.of_below (h.below.alloc (o := o) (by have := h.below.size; omega))).trans (F' := F) ?_ fun _ g => .inl g
    exact (But.of_grown hg fun k hk => (h.j.frow k hk).1).trans (But.setCell (F := F) w7 ⟨b, 2, none⟩ _ h.j.fb) fun _ g => .inl g

end

set_option maxRecDepth 100000 in
set_option maxHeartbeats 4000000 in
theorem rtake_n5 (b : Nat) (most room : Int) (sv : Value) (l : List Op) (p : Pc) (F : Nat → Prop) (w : World) (h : RJ w F b most room sv l) (ok : OpsOk most l) (hm : limB most room = true) (hv : vP p = true) (hn : idxO l p.id = none) (hp : p.place = 0) (hmo : p.more = true) (hs : ¬ room < (bytesO l : Int) + (p.body.size : Int)) (hq : most ≤ (l.length : Int)) :
    Calls Try.prog 18 #[.pointer (some ⟨b, 0, none⟩), .agg #[.int .i64 p.id, .int .i64 p.place, .bool p.more, .string p.body]] w (RTakeP w F b most room (took most room l p)) := by
  obtain ⟨i, pl, m, bd⟩ := p
  simp only at *
  obtain ⟨hm1, hm2, hm3, hm4⟩ := limB_spec hm
  have hl : l.length ≤ 100 := by have := ok.few; omega
  have VA := Lib.hid fun wx => rvalid_any i pl m bd wx
  have FI := Lib.hid fun wx (hx : RJ wx F b most room sv l) => rfind_any b most room sv l i F wx hx hl
  have T1 := Lib.hid (TkR.start h i pl m bd)
  have HH := Lib.hid h
  have hbP : Hid (b < w.heap.size) := Lib.hid (h.few _ h.fb)
  rw [hv] at VA
  have hf : findO l i = -1 := by unfold findO; rw [hn]
  rw [hf] at FI
  subst hmo
  have hr : took most room l ⟨i, pl, true, bd⟩ = ⟨l, ⟨#[]⟩, false, 4⟩ := by
    unfold took
    rw [if_pos hv]
    simp only [hn, tookN]
    simp [hp, hs, hq]
  rw [hr]
  subst hp
  have OKB := Lib.hid ok.body
  obtain ⟨⟨ao, cap, hsv⟩, _⟩ := h.form
  subst hsv
  have e4 : decide (most ≤ (l.length : Int)) = true := decide_eq_true hq
  clear ok
  have RB := Lib.hid fun wx (hx : RJ wx F b most room (.slice ao l.length cap) l) => rbytes_any b most room (.slice ao l.length cap) l F wx hx hl OKB.out
  have hbs : (bytesO l : Int) + (bd.size : Int) ≤ 100000000 := by
    have h1 := bytesO_le OKB.out
    have h2 := vP_body hv
    simp only at h2
    omega
  obtain ⟨S, hS⟩ : ∃ S, bytesO l = S := ⟨_, rfl⟩
  rw [hS] at RB hs hbs
  have e1 : decide (room < (S : Int) + (bd.size : Int)) = false := decide_eq_false hs
  clear h hm hm1 hm2 hm3 hm4 hl hv hr hn hf hS
  go_enter Try.func18, Try.ntmps18
  go_wp2_with (first | (go_at_call 33; refine (VA.out _).mono ?_; rintro e w2 ⟨rfl, hb2⟩; have T2 := Lib.hid (T1.out.next hb2); obtain ⟨p0, p1, p2, p3⟩ := T2.out.cells; clear hb2) | (go_at_call 30; refine (FI.out _ T2.out.j).mono ?_; rintro e w3 ⟨rfl, hb3⟩; have T3 := Lib.hid (T2.out.next hb3); clear p0 p1 p2 p3; obtain ⟨p0, p1, p2, p3⟩ := T3.out.cells; obtain ⟨j0, j1, j2⟩ := T3.out.jcells; clear hb3 T2))
  go_quiet (fail)
  go_wp2_with fail
  clear p0 p1 p2 p3 j0 j1 j2
  have T4 := Lib.hid (T3.out.next (below_drewN' w3 nq))
  clear T3
  obtain ⟨w4, hw4⟩ : ∃ x, w3.drewN nq = x := ⟨_, rfl⟩
  rw [hw4] at T4
  have p0 := cell_regrown T4.out.cells.1
  have p2 := cell_regrown T4.out.cells.2.2.1
  have p3 := cell_regrown T4.out.cells.2.2.2
  have j1 := cell_regrown T4.out.jcells.2.1
  have cV : Hid (∀ d os, Calls Try.prog 22 #[.pointer (some ⟨b, 0, none⟩)] (grow (redrawn w4 d) os) fun e w'' => e = .returned (.int .i64 S) ∧ ∃ p : Regrown, w'' = grow (redrawn w4 p.d) p.os) := Lib.hid fun d os => Calls.regrown_of (RB.out _ (T4.out.j.below (below_regrown w4 d os)))
  rw [hw4]
  clear hw4
  refine wp_region_quiet_below (by kernel_rfl) (by kernel_rfl) ?_
  repeat (go_big_quiet_step (exact cV.out _ _))
  refine wpQuiet_nil ?_
  intro _ hw'
  obtain ⟨⟨dq, osq⟩, hw''⟩ := hw'
  subst hw''
  have T5 := Lib.hid (T4.out.next (below_regrown w4 dq osq))
  clear p0 p2 p3 j1 cV
  clear T4
  obtain ⟨p0, p1, p2, p3⟩ := T5.out.cells
  obtain ⟨j0, j1, j2⟩ := T5.out.jcells
  obtain ⟨w5, hw5⟩ : ∃ x, grow (redrawn w4 dq) osq = x := ⟨_, rfl⟩
  rw [hw5] at T5 p0 p1 p2 p3 j0 j1 j2
  rw [hw5]
  clear hw5
  go_wp2_with fail
  go_quiet (fail)
  go_wp2_with fail
  go_ret3
  exact ⟨rfl, (T5.out.next (below_drewN' _ _)).same⟩

set_option maxRecDepth 100000 in
set_option maxHeartbeats 4000000 in
theorem rtake_n6 (b : Nat) (most room : Int) (sv : Value) (l : List Op) (p : Pc) (F : Nat → Prop) (w : World) (h : RJ w F b most room sv l) (ok : OpsOk most l) (hm : limB most room = true) (hv : vP p = true) (hn : idxO l p.id = none) (hp : p.place = 0) (hmo : p.more = true) (hs : ¬ room < (bytesO l : Int) + (p.body.size : Int)) (hq : ¬ most ≤ (l.length : Int)) :
    Calls Try.prog 18 #[.pointer (some ⟨b, 0, none⟩), .agg #[.int .i64 p.id, .int .i64 p.place, .bool p.more, .string p.body]] w (RTakeP w F b most room (took most room l p)) := by
  obtain ⟨i, pl, m, bd⟩ := p
  simp only at *
  obtain ⟨hm1, hm2, hm3, hm4⟩ := limB_spec hm
  have hl : l.length ≤ 100 := by have := ok.few; omega
  have VA := Lib.hid fun wx => rvalid_any i pl m bd wx
  have FI := Lib.hid fun wx (hx : RJ wx F b most room sv l) => rfind_any b most room sv l i F wx hx hl
  have T1 := Lib.hid (TkR.start h i pl m bd)
  have HH := Lib.hid h
  have hbP : Hid (b < w.heap.size) := Lib.hid (h.few _ h.fb)
  rw [hv] at VA
  have hf : findO l i = -1 := by unfold findO; rw [hn]
  rw [hf] at FI
  subst hmo
  have hr : took most room l ⟨i, pl, true, bd⟩ = ⟨l ++ [⟨i, 1, bd⟩], ⟨#[]⟩, false, 0⟩ := by
    unfold took
    rw [if_pos hv]
    simp only [hn, tookN]
    simp [hp, hs, hq]
  rw [hr]
  subst hp
  have OKB := Lib.hid ok.body
  obtain ⟨⟨ao, cap, hsv⟩, _⟩ := h.form
  subst hsv
  have e4 : decide (most ≤ (l.length : Int)) = false := decide_eq_false hq
  have hlen : l.length ≤ 100 := hl
  clear ok
  have RB := Lib.hid fun wx (hx : RJ wx F b most room (.slice ao l.length cap) l) => rbytes_any b most room (.slice ao l.length cap) l F wx hx hl OKB.out
  have hbs : (bytesO l : Int) + (bd.size : Int) ≤ 100000000 := by
    have h1 := bytesO_le OKB.out
    have h2 := vP_body hv
    simp only at h2
    omega
  obtain ⟨S, hS⟩ : ∃ S, bytesO l = S := ⟨_, rfl⟩
  rw [hS] at RB hs hbs
  have e1 : decide (room < (S : Int) + (bd.size : Int)) = false := decide_eq_false hs
  clear h hm hm1 hm2 hm3 hm4 hl hv hr hn hf hS
  go_enter Try.func18, Try.ntmps18
  go_wp2_with (first | (go_at_call 33; refine (VA.out _).mono ?_; rintro e w2 ⟨rfl, hb2⟩; have T2 := Lib.hid (T1.out.next hb2); obtain ⟨p0, p1, p2, p3⟩ := T2.out.cells; clear hb2) | (go_at_call 30; refine (FI.out _ T2.out.j).mono ?_; rintro e w3 ⟨rfl, hb3⟩; have T3 := Lib.hid (T2.out.next hb3); clear p0 p1 p2 p3; obtain ⟨p0, p1, p2, p3⟩ := T3.out.cells; obtain ⟨j0, j1, j2⟩ := T3.out.jcells; clear hb3 T2))
  go_quiet (fail)
  go_wp2_with fail
  clear p0 p1 p2 p3 j0 j1 j2
  have T4 := Lib.hid (T3.out.next (below_drewN' w3 nq))
  clear T3
  obtain ⟨w4, hw4⟩ : ∃ x, w3.drewN nq = x := ⟨_, rfl⟩
  rw [hw4] at T4
  have p0 := cell_regrown T4.out.cells.1
  have p2 := cell_regrown T4.out.cells.2.2.1
  have p3 := cell_regrown T4.out.cells.2.2.2
  have j1 := cell_regrown T4.out.jcells.2.1
  have cV : Hid (∀ d os, Calls Try.prog 22 #[.pointer (some ⟨b, 0, none⟩)] (grow (redrawn w4 d) os) fun e w'' => e = .returned (.int .i64 S) ∧ ∃ p : Regrown, w'' = grow (redrawn w4 p.d) p.os) := Lib.hid fun d os => Calls.regrown_of (RB.out _ (T4.out.j.below (below_regrown w4 d os)))
  rw [hw4]
  clear hw4
  refine wp_region_quiet_below (by kernel_rfl) (by kernel_rfl) ?_
  repeat (go_big_quiet_step (exact cV.out _ _))
  refine wpQuiet_nil ?_
  intro _ hw'
  obtain ⟨⟨dq, osq⟩, hw''⟩ := hw'
  subst hw''
  have T5 := Lib.hid (T4.out.next (below_regrown w4 dq osq))
  clear p0 p2 p3 j1 cV
  clear T4
  obtain ⟨p0, p1, p2, p3⟩ := T5.out.cells
  obtain ⟨j0, j1, j2⟩ := T5.out.jcells
  obtain ⟨w5, hw5⟩ : ∃ x, grow (redrawn w4 dq) osq = x := ⟨_, rfl⟩
  rw [hw5] at T5 p0 p1 p2 p3 j0 j1 j2
  rw [hw5]
  clear hw5
  go_wp2_with fail
  go_quiet (fail)
  go_wp2_with fail
  clear p0 p1 p2 p3 j0 j1 j2
  have T6 := Lib.hid (T5.out.next (below_drewN' w5 nq))
  clear T5
  obtain ⟨w6, hw6⟩ : ∃ x, w5.drewN nq = x := ⟨_, rfl⟩
  rw [hw6] at T6
  rw [hw6]
  clear hw6
  obtain ⟨p0, p1, p2, p3⟩ := T6.out.cells
  obtain ⟨j0, j1, j2⟩ := T6.out.jcells
  obtain ⟨i0, hi0, hz0, hz1, hz2⟩ := info_parts infoOp
  have HL := Lib.hid hlen
  clear p1 p2 j0 j1 hlen
  have hS : TkS w6.drew w.heap.size b (.slice ao l.length cap) i bd := ⟨p0, p3, j2⟩
  refine wp_region_C (S := fun W => TkS W w.heap.size b (.slice ao l.length cap) i bd) (c := 14) (by kernel_rfl) ?_
  refine takeC 1 (i := 0) (d := 68) (v := .pointer (some ⟨b, 0, none⟩)) rfl rfl (by kernel_rfl) (by kernel_rfl) (by kernel_rfl) (by decide) (by kernel_rfl) (fun _ _ _ h => h) (by rfl) (by (rintro w ⟨s0, s3, s2⟩; go_simp)) hS ?_
  simp only [List.setIfInBounds_toArray, List.set_cons_zero, List.set_cons_succ]
  refine takeC 1 (i := 1) (d := 69) (v := .pointer (some ⟨b, 0, none⟩)) rfl rfl (by kernel_rfl) (by kernel_rfl) (by kernel_rfl) (by decide) (by kernel_rfl) (fun _ _ _ h => h) (by rfl) (by (rintro w ⟨s0, s3, s2⟩; go_simp)) hS ?_
  simp only [List.setIfInBounds_toArray, List.set_cons_zero, List.set_cons_succ]
  refine takeC 1 (i := 2) (d := 70) (v := .pointer (some ⟨b, 0, none⟩)) rfl rfl (by kernel_rfl) (by kernel_rfl) (by kernel_rfl) (by decide) (by kernel_rfl) (fun _ _ _ h => h) (by rfl) (by (rintro w ⟨s0, s3, s2⟩; go_simp)) hS ?_
  simp only [List.setIfInBounds_toArray, List.set_cons_zero, List.set_cons_succ]
  refine takeC 1 (i := 3) (d := 71) (v := .pointer (some ⟨b, 2, none⟩)) rfl rfl (by kernel_rfl) (by kernel_rfl) (by kernel_rfl) (by decide) (by kernel_rfl) (fun _ _ _ h => h) (by rfl) (by (rintro w ⟨s0, s3, s2⟩; go_simp)) hS ?_
  simp only [List.setIfInBounds_toArray, List.set_cons_zero, List.set_cons_succ]
  refine takeC 1 (i := 4) (d := 72) (v := .slice ao l.length cap) rfl rfl (by kernel_rfl) (by kernel_rfl) (by kernel_rfl) (by decide) (by kernel_rfl) (fun _ _ _ h => h) (by rfl) (by (rintro w ⟨s0, s3, s2⟩; go_simp)) hS ?_
  simp only [List.setIfInBounds_toArray, List.set_cons_zero, List.set_cons_succ]
  refine takeC 1 (i := 5) (d := 73) (v := .pointer (some ⟨w.heap.size, 0, none⟩)) rfl rfl (by kernel_rfl) (by kernel_rfl) (by kernel_rfl) (by decide) (by kernel_rfl) (fun _ _ _ h => h) (by rfl) (by (rintro w ⟨s0, s3, s2⟩; go_simp)) hS ?_
  simp only [List.setIfInBounds_toArray, List.set_cons_zero, List.set_cons_succ]
  refine takeC 1 (i := 6) (d := 74) (v := .int .i64 i) rfl rfl (by kernel_rfl) (by kernel_rfl) (by kernel_rfl) (by decide) (by kernel_rfl) (fun _ _ _ h => h) (by rfl) (by (rintro w ⟨s0, s3, s2⟩; go_simp)) hS ?_
  simp only [List.setIfInBounds_toArray, List.set_cons_zero, List.set_cons_succ]
  refine takeC 1 (i := 7) (d := 75) (v := .pointer (some ⟨w.heap.size, 3, none⟩)) rfl rfl (by kernel_rfl) (by kernel_rfl) (by kernel_rfl) (by decide) (by kernel_rfl) (fun _ _ _ h => h) (by rfl) (by (rintro w ⟨s0, s3, s2⟩; go_simp)) hS ?_
  simp only [List.setIfInBounds_toArray, List.set_cons_zero, List.set_cons_succ]
  refine takeC 1 (i := 8) (d := 76) (v := .string bd) rfl rfl (by kernel_rfl) (by kernel_rfl) (by kernel_rfl) (by decide) (by kernel_rfl) (fun _ _ _ h => h) (by rfl) (by (rintro w ⟨s0, s3, s2⟩; go_simp)) hS ?_
  simp only [List.setIfInBounds_toArray, List.set_cons_zero, List.set_cons_succ]
  refine takeC 1 (i := 9) (d := 77) (v := .agg #[.int .i64 i, .int .i64 1, .string bd]) rfl rfl (by kernel_rfl) (by kernel_rfl) (by kernel_rfl) (by decide) (by kernel_rfl) (fun _ _ _ h => h) (by rfl) (by (rintro w ⟨s0, s3, s2⟩; go_simp)) hS ?_
  simp only [List.setIfInBounds_toArray, List.set_cons_zero, List.set_cons_succ]
  refine stepU (i := 10) (by kernel_rfl) rfl (fun K hK => ?_)
  rw [if_pos (by rfl)]
  go_simp
  have hS1 := hS.below ((Below.refl w6.drew.heap.size w6.drew).alloc (Nat.le_refl _) (Obj.cells #[Value.int .i64 i, Value.int .i64 1, Value.string bd] 72))
  refine hK.out _ _ hS1 ?_
  clear hK K
  refine stepU (i := 11) (by kernel_rfl) rfl (fun K hK => ?_)
  refine step_append_lies _ (by rfl) _ _ 61 (by rfl) 0 72 i0 (.agg #[.int .i64 0, .int .i64 0, .string ⟨#[]⟩]) 3 32 under61 hi0 hz0 hz1 hz2 (by rfl) (by decide) (.slice ao l.length cap) l.length (opCells l) (by rfl) (by exact T6.out.j.row.alloc (Obj.cells #[Value.int .i64 i, Value.int .i64 1, Value.string bd] 72)) ⟨w6.heap.size, 0, none⟩ 1 1 [.int .i64 i, .int .i64 1, .string bd] (by rfl) (by rfl) (by exact cell_op_new (heap_alloc_new w6 _)) (by simp [Value.oneCell']) (by decide) (by have := HL.out; unfold maxLen; omega) (by have := HL.out; omega) (Nat.zero_le _) (w6.heap.size + 1) (by simp) ?_
  intro g cap7 w7 hown hgrow hat hlt7
  have hg7 : (w6.alloc (Obj.cells #[Value.int .i64 i, Value.int .i64 1, Value.string bd] 72)).grownBy w7 (Value.slice ao l.length cap).ownBlock := ⟨hgrow.os, hgrow.tape, hgrow.output, hgrow.size, hgrow.block⟩
  have hb7 := T6.out.blk7 hg7
  have hp7 := T6.out.pc7 HH.out.few hg7
  have HS9 := Lib.hid (RStep.grow (x := ⟨i, 1, bd⟩) T6.out hg7 hown hat hlt7)
  have r2 := cells_at hb7 2
  have rf := frozen_at hb7 2
  have hS7 : TkS w7 w.heap.size b (.slice ao l.length cap) i bd := ⟨cells_at hp7 0, cells_at hp7 3, r2⟩
  clear hown hgrow hat hlt7 hg7 hb7 hp7
  refine hK.out _ _ hS7 ?_
  clear hK K
  refine takeC 1 (i := 12) (d := 80) (v := .pointer (some ⟨b, 0, none⟩)) rfl rfl (by kernel_rfl) (by kernel_rfl) (by kernel_rfl) (by decide) (by kernel_rfl) (fun _ _ _ h => h) (by rfl) (by (rintro w ⟨s0, s3, s2⟩; go_simp)) hS7 ?_
  simp only [List.setIfInBounds_toArray, List.set_cons_zero, List.set_cons_succ]
  refine takeC 1 (i := 13) (d := 81) (v := .pointer (some ⟨b, 2, none⟩)) rfl rfl (by kernel_rfl) (by kernel_rfl) (by kernel_rfl) (by decide) (by kernel_rfl) (fun _ _ _ h => h) (by rfl) (by (rintro w ⟨s0, s3, s2⟩; go_simp)) hS7 ?_
  simp only [List.setIfInBounds_toArray, List.set_cons_zero, List.set_cons_succ]
  refine stepC (by kernel_rfl) rfl (fun K hK => ?_)
  rw [if_pos (by rfl)]
  go_simp
  refine hK.out _ _ ?_
  clear hK K
  refine doneC (by kernel_rfl) ?_ _
  clear hS hS1 hS7
  go_wp2_with fail
  go_ret3
  exact ⟨rfl, HS9.out⟩

end Go.Proofs.Yteblbpdpfegooaa
