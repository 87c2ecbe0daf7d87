/- The reference's Take of a message that is open and stays open; Take whole. -/
import Derived.Test.YteblbpdpfegooaaJg
namespace Go.Proofs.Yteblbpdpfegooaa
open Go.RowKit Go.Sort Go.BigFrame
attribute [local go_sem ↓] Go.wp_at_zero Go.wp_at_succ

/-- What the region reads. -/
structure TkV (W : World) (P X b g k : Nat) (sv : Value) (xi xp : Int) (xb bd : ByteArray) : Prop where
  s3 : W.cell? ⟨P, 3, none⟩ = some (.string bd)
  s2 : W.cell? ⟨b, 2, none⟩ = some sv
  x0 : W.cell? ⟨X, 0, none⟩ = some (.int .i64 xi)
  x1 : W.cell? ⟨X, 1, none⟩ = some (.int .i64 xp)
  x2 : W.cell? ⟨X, 2, none⟩ = some (.string xb)

theorem opCells_set : ∀ (l : List Op) (k : Nat) (x : Op), k < l.length → (((opCells l).set (k * 3) (.int .i64 x.id)).set (k * 3 + 1) (.int .i64 x.pieces)).set (k * 3 + 2) (.string x.body) = opCells (l.set k x)
  | y :: r, 0, x, _ => by rw [opCells_cons, List.set_cons_zero, opCells_cons]; rfl
  | y :: r, k + 1, x, h => by
    have ih := opCells_set r k x (by simpa using h)
    rw [List.set_cons_succ, opCells_cons, opCells_cons, ← ih]
    rw [show (k + 1) * 3 = k * 3 + 3 by omega, show k * 3 + 3 + 1 = k * 3 + 1 + 3 by omega, show k * 3 + 3 + 2 = k * 3 + 2 + 3 by omega]
    simp

theorem RJ.rblk {w : World} {F : Nat → Prop} {b : Nat} {most room : Int} {g n cap : Nat} {l : List Op} (h : RJ w F b most room (.slice (some ⟨g, 0, none⟩) n cap) l) : ∃ cur, w.heap[g]? = some (.cells cur 72 (0, 0)) := by
  rcases h.row.2 with ⟨hn, _⟩ | ⟨g', cap', cur, hv, _, hg, _⟩
  · simp at hn
  · simp only [Value.slice.injEq, Option.some.injEq, Addr.mk.injEq] at hv
    obtain ⟨⟨rfl, _, _⟩, _⟩ := hv
    exact ⟨cur, hg⟩

/-- An open message is written anew. -/
theorem RStep.write {w w5 : World} {F : Nat → Prop} {b : Nat} {most room : Int} {g n cap : Nat} {l : List Op} (h : RJ w5 F b most room (.slice (some ⟨g, 0, none⟩) n cap) l) (hb : Below w.heap.size w w5) (k : Nat) (hk : k < l.length) (x : Op) :
    RStep w F b most room (l.set k x) (((w5.setCell ⟨g, k * 3, none⟩ (.int .i64 x.id)).setCell ⟨g, k * 3 + 1, none⟩ (.int .i64 x.pieces)).setCell ⟨g, k * 3 + 2, none⟩ (.string x.body)).drew := by
  have hgF := h.frow g rfl
  have hbut : ∀ j v W, But F W (World.setCell W ⟨g, j, none⟩ v) := fun j v W => But.setCell W _ v hgF.1
  have hB := ((hbut (k * 3) (.int .i64 x.id) w5).trans (hbut (k * 3 + 1) (.int .i64 x.pieces) _) fun _ g => .inl g).trans (hbut (k * 3 + 2) (.string x.body) _) fun _ g => .inl g
  refine ⟨F, .slice (some ⟨g, 0, none⟩) n cap, ⟨?_, ?_, h.fb, h.frow, fun j hj => ?_⟩, fun _ g => .inl g, ?_⟩
  · have h0 := heap_setCell_other w5 ⟨g, k * 3, none⟩ b (.int .i64 x.id) (Ne.symm hgF.2)
    have h1 := heap_setCell_other (w5.setCell ⟨g, k * 3, none⟩ (.int .i64 x.id)) ⟨g, k * 3 + 1, none⟩ b (.int .i64 x.pieces) (Ne.symm hgF.2)
    have h2 := heap_setCell_other ((w5.setCell ⟨g, k * 3, none⟩ (.int .i64 x.id)).setCell ⟨g, k * 3 + 1, none⟩ (.int .i64 x.pieces)) ⟨g, k * 3 + 2, none⟩ b (.string x.body) (Ne.symm hgF.2)
    exact h2.trans (h1.trans (h0.trans h.blk))
  · refine ⟨by rw [opCells_len], ?_⟩
    rcases h.row.2 with ⟨hn, _⟩ | ⟨g', cap', cur, hv, h0, hg, hc, hm, hs, ht⟩
    · simp at hn
    · have hv' := hv
      simp only [Value.slice.injEq, Option.some.injEq, Addr.mk.injEq] at hv'
      obtain ⟨⟨rfl, _, _⟩, hn, rfl⟩ := hv'
      refine .inr ⟨g, cap, _, by rw [List.length_set]; exact hv, h0, heap_setCell_same _ _ _ _ _ _ (heap_setCell_same _ _ _ _ _ _ (heap_setCell_same _ _ _ _ _ _ hg)), by rw [List.length_set]; exact hc, hm, by simp [hs], ?_⟩
      rw [List.length_set]
      simp only [Array.toList_setIfInBounds, List.take_set, ht]
      exact opCells_set l k x hk
  · have := h.few j hj
    simpa [World.setCell] using this
  · exact (But.of_below hb).trans (hB.trans (But.of_below (F := F) (below_drewN' _ 1)) fun _ g => .inl g) fun _ g => .inl g

set_option maxRecDepth 100000 in
set_option maxHeartbeats 1000000 in
theorem rtake_s5 (b : Nat) (most room : Int) (sv : Value) (l : List Op) (p : Pc) (F : Nat → Prop) (w : World) (h : RJ w F b most room sv l) (ok : OpsOk most l) (hm : limB most room = true) (hv : vP p = true) (k : Nat) (hk : k < l.length) (hn : idxO l p.id = some k) (hp : p.place = l[k].pieces) (hs : ¬ 65536 < l[k].body.size + p.body.size) (hq : ¬ room < (bytesO l : Int) + (p.body.size : Int)) (hmo : p.more = true) :
    Calls Try.prog 18 #[.pointer (some ⟨b, 0, none⟩), .agg #[.int .i64 p.id, .int .i64 p.place, .bool p.more, .string p.body]] w (RTakeP w F b most room (took most room l p)) := by
  obtain ⟨i, pl, m, bd⟩ := p
  have hr : took most room l ⟨i, pl, m, bd⟩ = tookS room l ⟨i, pl, m, bd⟩ k l[k] := by
    unfold took
    rw [if_pos hv]
    simp only [hn, getD_at hk]
  rw [hr]
  clear hr
  obtain ⟨g, cap, rfl, _⟩ := h.form.2 k hk
  have HAT := Lib.hid fun wx (hx : RJ wx F b most room (.slice (some ⟨g, 0, none⟩) l.length cap) l) => (hx.at hk).2
  obtain ⟨hm1, hm2, hm3, hm4⟩ := limB_spec hm
  have hl : l.length ≤ 100 := by have := ok.few; omega
  have hxb := ok.body l[k] (List.getElem_mem hk)
  have hxp := ok.pieces l[k] (List.getElem_mem hk)
  obtain ⟨x, hx⟩ : ∃ x, l[k] = x := ⟨_, rfl⟩
  rw [hx] at HAT hxb hxp ⊢
  simp only [hx] at *
  obtain ⟨xi, xp, xb⟩ := x
  unfold tookS
  simp only at *
  have hpb := vP_body hv
  simp only at hpb
  have VA := Lib.hid fun wx => rvalid_any i pl m bd wx
  rw [hv] at VA
  have FI := Lib.hid fun wx (hx : RJ wx F b most room (.slice (some ⟨g, 0, none⟩) l.length cap) l) => rfind_any b most room _ l i F wx hx hl
  have hf : findO l i = (k : Int) := by unfold findO; rw [hn]
  rw [hf] at FI
  have T1 := Lib.hid (TkR.start h i pl m bd)
  have HFW := Lib.hid h.few
  have RM := Lib.hid fun wx (hx : RJ wx F b most room (.slice (some ⟨g, 0, none⟩) l.length cap) l) => rremove_any b most room _ l k F wx hx hl hk
  have RB := Lib.hid fun wx (hx : RJ wx F b most room (.slice (some ⟨g, 0, none⟩) l.length cap) l) => rbytes_any b most room _ l F wx hx hl ok.body
  have hbs : (bytesO l : Int) + (bd.size : Int) ≤ 100000000 := by
    have h1 := bytesO_le ok.body
    omega
  obtain ⟨S, hS⟩ : ∃ S, bytesO l = S := ⟨_, rfl⟩
  simp only [hS] at *
  have hk0 : (0 : Int) ≤ (k : Int) := by omega
  have hk1 : (k : Int) < (l.length : Int) := by omega
  have hk2 : decide ((k : Int) < 0) = false := decide_eq_false (by omega)
  subst hmo
  rw [if_neg (fun g => g hp), if_neg (fun g => g.elim hs hq), if_neg (by decide)]
  subst hp
  have e2 : decide ((65536 : Int) < (xb.size : Int) + (bd.size : Int)) = false := decide_eq_false (by omega)
  have e3 : decide (room < (S : Int) + (bd.size : Int)) = false := decide_eq_false hq
  have hz : (xb.size : Int) + (bd.size : Int) ≤ 1000000 := by omega
  have HZ : Hid (xb.size + bd.size ≤ 1000000) := Lib.hid (by omega)
  have HKL := Lib.hid hk
  have hwr : IntKind.i64.wrap (pl + 1) = pl + 1 := IntWalk.i64_in _ (by omega)
  clear hs hq
  clear h hm hm1 hm2 hm3 hm4 hl hv hn hf ok hS hx hxb hxp hpb hk
  go_enter Try.func18, Try.ntmps18
  go_wp2_with (first | (go_at_call 33; refine (VA.out _).mono ?_; rintro e w2 ⟨rfl, hb2⟩; have T2 := Lib.hid (T1.out.next hb2); obtain ⟨p0, p1, p2, p3⟩ := T2.out.cells; clear hb2) | (go_at_call 30; refine (FI.out _ T2.out.j).mono ?_; rintro e w3 ⟨rfl, hb3⟩; have T3 := Lib.hid (T2.out.next hb3); clear p0 p1 p2 p3; obtain ⟨p0, p1, p2, p3⟩ := T3.out.cells; obtain ⟨j0, j1, j2⟩ := T3.out.jcells; obtain ⟨q0, q1, q2⟩ := HAT.out _ T3.out.j; have T4 := Lib.hid (TkX.start T3.out xi pl xb); have y1 := T4.out.r.cells.2.1; have y2 := T4.out.r.cells.2.2.1; have y3 := T4.out.r.cells.2.2.2; have x2 := T4.out.xcells.2.2; clear hb3 T2))
  have w4n : Hid (Below w3.heap.size w3 (w3.alloc (opO xi pl xb))) := Lib.hid ((Below.refl _ _).alloc (Nat.le_refl _) _)
  clear p0 p1 p2 p3 j0 j1 j2 q0 q1 q2 y1 y2 y3 x2
  obtain ⟨w4, hw4⟩ : ∃ x, w3.alloc (opO xi pl xb) = x := ⟨_, rfl⟩
  rw [show w3.alloc (Obj.cells #[Value.int .i64 xi, Value.int .i64 pl, Value.string xb] 72) = w4 from hw4]
  rw [hw4] at T4
  clear hw4 w4n
  have p3 := cell_regrown T4.out.r.cells.2.2.2
  have x2 := cell_regrown T4.out.xcells.2.2
  have j1 := cell_regrown T4.out.r.jcells.2.1
  have cV : Hid (∀ d os, Calls Try.prog 22 #[.pointer (some ⟨b, 0, none⟩)] (grow (redrawn w4 d) os) fun e w'' => e = .returned (.int .i64 S) ∧ ∃ p : Regrown, w'' = grow (redrawn w4 p.d) p.os) := Lib.hid fun d os => Calls.regrown_of (RB.out _ (T4.out.r.j.below (below_regrown w4 d os)))
  refine wp_region_quiet_below (by kernel_rfl) (by kernel_rfl) ?_
  repeat (go_big_quiet_step (exact cV.out _ _))
  refine wpQuiet_nil ?_
  intro _ hw'
  obtain ⟨⟨dq, osq⟩, hw''⟩ := hw'
  subst hw''
  have T5 := Lib.hid (T4.out.next (below_regrown w4 dq osq))
  clear p3 x2 j1 cV T4
  obtain ⟨w5, hw5⟩ : ∃ x, grow (redrawn w4 dq) osq = x := ⟨_, rfl⟩
  rw [hw5] at T5 ⊢
  clear hw5
  have y2 := T5.out.r.cells.2.2.1
  go_wp2_with fail
  have hz2 : ¬ 9223372036854775807 < xb.size + bd.size := by have := HZ.out; omega
  have hS : TkV w5.drew w.heap.size w3.heap.size b g k (.slice (some ⟨g, 0, none⟩) l.length cap) xi pl xb bd := ⟨T5.out.r.cells.2.2.2, T5.out.r.jcells.2.2, T5.out.xcells.1, T5.out.xcells.2.1, T5.out.xcells.2.2⟩
  refine wp_region_C (S := fun W => TkV W w.heap.size w3.heap.size b g k (.slice (some ⟨g, 0, none⟩) l.length cap) xi pl xb bd) (c := 17) (by kernel_rfl) ?_
  refine takeC 3 (i := 0) (d := 132) (v := .pointer (some ⟨b, 0, none⟩)) rfl rfl (by kernel_rfl) (by kernel_rfl) (by kernel_rfl) (by decide) (by kernel_rfl) (fun _ _ _ h => h) (by rfl) (by (rintro w ⟨s3, s2, x0, x1, x2⟩; go_simp)) hS ?_
  simp only [List.setIfInBounds_toArray, List.set_cons_zero, List.set_cons_succ]
  refine takeC 3 (i := 1) (d := 133) (v := .pointer (some ⟨b, 0, none⟩)) rfl rfl (by kernel_rfl) (by kernel_rfl) (by kernel_rfl) (by decide) (by kernel_rfl) (fun _ _ _ h => h) (by rfl) (by (rintro w ⟨s3, s2, x0, x1, x2⟩; go_simp)) hS ?_
  simp only [List.setIfInBounds_toArray, List.set_cons_zero, List.set_cons_succ]
  refine takeC 3 (i := 2) (d := 134) (v := .pointer (some ⟨b, 2, none⟩)) rfl rfl (by kernel_rfl) (by kernel_rfl) (by kernel_rfl) (by decide) (by kernel_rfl) (fun _ _ _ h => h) (by rfl) (by (rintro w ⟨s3, s2, x0, x1, x2⟩; go_simp)) hS ?_
  simp only [List.setIfInBounds_toArray, List.set_cons_zero, List.set_cons_succ]
  refine takeC 3 (i := 3) (d := 135) (v := .slice (some ⟨g, 0, none⟩) l.length cap) rfl rfl (by kernel_rfl) (by kernel_rfl) (by kernel_rfl) (by decide) (by kernel_rfl) (fun _ _ _ h => h) (by rfl) (by (rintro w ⟨s3, s2, x0, x1, x2⟩; go_simp)) hS ?_
  simp only [List.setIfInBounds_toArray, List.set_cons_zero, List.set_cons_succ]
  refine takeC 3 (i := 4) (d := 136) (v := .int .i64 (k : Int)) rfl rfl (by kernel_rfl) (by kernel_rfl) (by kernel_rfl) (by decide) (by kernel_rfl) (fun _ _ _ h => h) (by rfl) (by (rintro w ⟨s3, s2, x0, x1, x2⟩; go_simp)) hS ?_
  simp only [List.setIfInBounds_toArray, List.set_cons_zero, List.set_cons_succ]
  refine takeC 3 (i := 5) (d := 137) (v := .pointer (some ⟨w3.heap.size, 0, none⟩)) rfl rfl (by kernel_rfl) (by kernel_rfl) (by kernel_rfl) (by decide) (by kernel_rfl) (fun _ _ _ h => h) (by rfl) (by (rintro w ⟨s3, s2, x0, x1, x2⟩; go_simp)) hS ?_
  simp only [List.setIfInBounds_toArray, List.set_cons_zero, List.set_cons_succ]
  refine takeC 3 (i := 6) (d := 138) (v := .int .i64 xi) rfl rfl (by kernel_rfl) (by kernel_rfl) (by kernel_rfl) (by decide) (by kernel_rfl) (fun _ _ _ h => h) (by rfl) (by (rintro w ⟨s3, s2, x0, x1, x2⟩; go_simp)) hS ?_
  simp only [List.setIfInBounds_toArray, List.set_cons_zero, List.set_cons_succ]
  refine takeC 3 (i := 7) (d := 139) (v := .pointer (some ⟨w3.heap.size, 1, none⟩)) rfl rfl (by kernel_rfl) (by kernel_rfl) (by kernel_rfl) (by decide) (by kernel_rfl) (fun _ _ _ h => h) (by rfl) (by (rintro w ⟨s3, s2, x0, x1, x2⟩; go_simp)) hS ?_
  simp only [List.setIfInBounds_toArray, List.set_cons_zero, List.set_cons_succ]
  refine takeC 3 (i := 8) (d := 140) (v := .int .i64 pl) rfl rfl (by kernel_rfl) (by kernel_rfl) (by kernel_rfl) (by decide) (by kernel_rfl) (fun _ _ _ h => h) (by rfl) (by (rintro w ⟨s3, s2, x0, x1, x2⟩; go_simp)) hS ?_
  simp only [List.setIfInBounds_toArray, List.set_cons_zero, List.set_cons_succ]
  refine takeC 3 (i := 9) (d := 141) (v := .int .i64 (pl + 1)) rfl rfl (by kernel_rfl) (by kernel_rfl) (by kernel_rfl) (by decide) (by kernel_rfl) (fun _ _ _ h => h) (by rfl) (by (rintro w ⟨s3, s2, x0, x1, x2⟩; go_simp)) hS ?_
  simp only [List.setIfInBounds_toArray, List.set_cons_zero, List.set_cons_succ]
  refine takeC 3 (i := 10) (d := 142) (v := .pointer (some ⟨w3.heap.size, 2, none⟩)) rfl rfl (by kernel_rfl) (by kernel_rfl) (by kernel_rfl) (by decide) (by kernel_rfl) (fun _ _ _ h => h) (by rfl) (by (rintro w ⟨s3, s2, x0, x1, x2⟩; go_simp)) hS ?_
  simp only [List.setIfInBounds_toArray, List.set_cons_zero, List.set_cons_succ]
  refine takeC 3 (i := 11) (d := 143) (v := .string xb) rfl rfl (by kernel_rfl) (by kernel_rfl) (by kernel_rfl) (by decide) (by kernel_rfl) (fun _ _ _ h => h) (by rfl) (by (rintro w ⟨s3, s2, x0, x1, x2⟩; go_simp)) hS ?_
  simp only [List.setIfInBounds_toArray, List.set_cons_zero, List.set_cons_succ]
  refine takeC 3 (i := 12) (d := 144) (v := .pointer (some ⟨w.heap.size, 3, none⟩)) rfl rfl (by kernel_rfl) (by kernel_rfl) (by kernel_rfl) (by decide) (by kernel_rfl) (fun _ _ _ h => h) (by rfl) (by (rintro w ⟨s3, s2, x0, x1, x2⟩; go_simp)) hS ?_
  simp only [List.setIfInBounds_toArray, List.set_cons_zero, List.set_cons_succ]
  refine takeC 3 (i := 13) (d := 145) (v := .string bd) rfl rfl (by kernel_rfl) (by kernel_rfl) (by kernel_rfl) (by decide) (by kernel_rfl) (fun _ _ _ h => h) (by rfl) (by (rintro w ⟨s3, s2, x0, x1, x2⟩; go_simp)) hS ?_
  simp only [List.setIfInBounds_toArray, List.set_cons_zero, List.set_cons_succ]
  refine takeC 3 (i := 14) (d := 146) (v := .string (xb ++ bd)) rfl rfl (by kernel_rfl) (by kernel_rfl) (by kernel_rfl) (by decide) (by kernel_rfl) (fun _ _ _ h => h) (by rfl) (by (rintro w ⟨s3, s2, x0, x1, x2⟩; go_simp)) hS ?_
  simp only [List.setIfInBounds_toArray, List.set_cons_zero, List.set_cons_succ]
  refine takeC 3 (i := 15) (d := 147) (v := .agg #[.int .i64 xi, .int .i64 (pl + 1), .string (xb ++ bd)]) rfl rfl (by kernel_rfl) (by kernel_rfl) (by kernel_rfl) (by decide) (by kernel_rfl) (fun _ _ _ h => h) (by rfl) (by (rintro w ⟨s3, s2, x0, x1, x2⟩; go_simp)) hS ?_
  simp only [List.setIfInBounds_toArray, List.set_cons_zero, List.set_cons_succ]
  refine takeC 3 (i := 16) (d := 148) (v := .pointer (some ⟨g, k * 3, none⟩)) rfl rfl (by kernel_rfl) (by kernel_rfl) (by kernel_rfl) (by decide) (by kernel_rfl) (fun _ _ _ h => h) (by rfl) (by (rintro w ⟨s3, s2, x0, x1, x2⟩; go_simp)) hS ?_
  simp only [List.setIfInBounds_toArray, List.set_cons_zero, List.set_cons_succ]
  obtain ⟨r0, r1, r2⟩ := HAT.out _ T5.out.r.j
  have rf : ∀ j, w5.frozen? ⟨g, j, none⟩ = false := by
    obtain ⟨cur, hh⟩ := T5.out.r.j.rblk
    exact fun j => frozen_at hh j
  refine stepC (by kernel_rfl) rfl (fun K hK => ?_)
  rw [if_pos (by rfl)]
  go_simp
  have HS9 := Lib.hid (RStep.write T5.out.r.j T5.out.r.below k HKL.out ⟨xi, pl + 1, xb ++ bd⟩)
  refine hK.out _ _ ?_
  clear hK K
  refine doneC (by kernel_rfl) ?_ _
  clear hS
  go_wp2_with fail
  go_ret3
  exact ⟨rfl, HS9.out⟩

theorem rtake_any (b : Nat) (most room : Int) (sv : Value) (l : List Op) (p : Pc) (F : Nat → Prop) (w : World) (h : RJ w F b most room sv l) (ok : OpsOk most l) (hm : limB most room = true) :
    Calls Try.prog 18 #[.pointer (some ⟨b, 0, none⟩), .agg #[.int .i64 p.id, .int .i64 p.place, .bool p.more, .string p.body]] w (RTakeP w F b most room (took most room l p)) := by
  cases hv : vP p with
  | false => exact rtake_bad b most room sv l p F w h ok hm hv
  | true =>
    cases hn : idxO l p.id with
    | none =>
      by_cases hp : p.place = 0
      · cases hmo : p.more with
        | false =>
          by_cases hs : room < (p.body.size : Int)
          · exact hmo ▸ rtake_n2 b most room sv l p F w h ok hm hv hn hp hmo hs
          · exact hmo ▸ rtake_n4 b most room sv l p F w h ok hm hv hn hp hmo hs
        | true =>
          by_cases hs : room < (bytesO l : Int) + (p.body.size : Int)
          · exact hmo ▸ rtake_n3 b most room sv l p F w h ok hm hv hn hp hmo hs
          · by_cases hq : most ≤ (l.length : Int)
            · exact hmo ▸ rtake_n5 b most room sv l p F w h ok hm hv hn hp hmo hs hq
            · exact hmo ▸ rtake_n6 b most room sv l p F w h ok hm hv hn hp hmo hs hq
      · exact rtake_n1 b most room sv l p F w h ok hm hv hn hp
    | some k =>
      have hk := (idxO_lt hn).1
      by_cases hp : p.place = l[k].pieces
      · by_cases hs : 65536 < l[k].body.size + p.body.size
        · exact rtake_s2 b most room sv l p F w h ok hm hv k hk hn hp hs
        · by_cases hq : room < (bytesO l : Int) + (p.body.size : Int)
          · exact rtake_s3 b most room sv l p F w h ok hm hv k hk hn hp hs hq
          · cases hmo : p.more with
            | false => exact hmo ▸ rtake_s4 b most room sv l p F w h ok hm hv k hk hn hp hs hq hmo
            | true => exact hmo ▸ rtake_s5 b most room sv l p F w h ok hm hv k hk hn hp hs hq hmo
      · exact rtake_s1 b most room sv l p F w h ok hm hv k hk hn hp

end Go.Proofs.Yteblbpdpfegooaa
