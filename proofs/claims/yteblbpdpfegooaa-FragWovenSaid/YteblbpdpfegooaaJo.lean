/- frag's Take: what it looks at first. -/
import Derived.Test.YteblbpdpfegooaaJl
import Derived.Test.YteblbpdpfegooaaJf
import Derived.OwnWalk
import Derived.Lib.BufferRead
namespace Go.Proofs.Yteblbpdpfegooaa
open Go.RowKit Go.Sort Go.BigFrame Go.Maps
attribute [local go_sem ↓] Go.wp_at_zero Go.wp_at_succ

/-- What Take of frag returns. -/
def FTakeP (w : World) (F : Nat → Prop) (b : Nat) (most room : Int) (r : Took) (e : Ending) (w' : World) : Prop :=
  e = .returned (.tuple #[.string r.body, .bool r.whole, .int .i64 r.er]) ∧ FStep w F b most room r.l w'

/-- In a call of Take: the piece lies in block P, the open message in block M. -/
structure TkF (w W : World) (F : Nat → Prop) (b mb : Nat) (most room : Int) (D : DataW Unit) (loc : Int → Nat × Nat) (l : List Op) (p : Pc) (P M : Nat) (sl : Value) (pc : Int) : Prop where
  blk : W.heap[P]? = some (pcO p.id p.place p.more p.body)
  mblk : W.heap[M]? = some (.cells #[sl, .int .i64 pc] 66 (0, 0))
  j : FJ W F b mb most room D loc l
  below : Below w.heap.size w W
  pP : P = w.heap.size
  lt : P < M
  old : ∀ k, F k → k < w.heap.size

section
variable {w W W' : World} {F : Nat → Prop} {b mb : Nat} {most room : Int} {D : DataW Unit} {loc : Int → Nat × Nat} {l : List Op} {p : Pc} {P M : Nat} {sl : Value} {pc : Int}

theorem TkF.next (h : TkF w W F b mb most room D loc l p P M sl pc) (hb : Below W.heap.size W W') : TkF w W' F b mb most room D loc l p P M sl pc :=
  ⟨(hb.block _ (Array.getElem?_eq_some_iff.1 h.blk).1).trans h.blk, (hb.block _ (Array.getElem?_eq_some_iff.1 h.mblk).1).trans h.mblk, h.j.below hb, h.below.trans (hb.mono h.below.size), h.pP, h.lt, h.old⟩

theorem TkF.cells (h : TkF w W F b mb most room D loc l p P M sl pc) :
    W.cell? ⟨P, 0, none⟩ = some (.int .i64 p.id) ∧ W.cell? ⟨P, 1, none⟩ = some (.int .i64 p.place) ∧ W.cell? ⟨P, 2, none⟩ = some (.bool p.more) ∧ W.cell? ⟨P, 3, none⟩ = some (.string p.body) :=
  ⟨cells_at h.blk 0, cells_at h.blk 1, cells_at h.blk 2, cells_at h.blk 3⟩

theorem TkF.mcells (h : TkF w W F b mb most room D loc l p P M sl pc) : W.cell? ⟨M, 0, none⟩ = some sl ∧ W.cell? ⟨M, 1, none⟩ = some (.int .i64 pc) := ⟨cells_at h.mblk 0, cells_at h.mblk 1⟩

theorem TkF.jcells (h : TkF w W F b mb most room D loc l p P M sl pc) :
    W.cell? ⟨b, 0, none⟩ = some (.int .i64 most) ∧ W.cell? ⟨b, 1, none⟩ = some (.int .i64 room) ∧ W.cell? ⟨b, 2, none⟩ = some (.map (some mb)) ∧ W.cell? ⟨b, 3, none⟩ = some (.int .i64 (bytesO l)) :=
  ⟨cells_at h.j.blk 0, cells_at h.j.blk 1, cells_at h.j.blk 2, cells_at h.j.blk 3⟩

/-- What forget leaves of the piece and of the open message. -/
theorem TkF.far (h : TkF w W F b mb most room D loc l p P M sl pc) {id : Int} (hs : Forgot W F b mb most room D loc l id W') :
    W'.cell? ⟨M, 0, none⟩ = some sl ∧ W'.cell? ⟨P, 3, none⟩ = some (.string p.body) ∧ FStep w F b most room (dropO l id) W' := by
  have hb := h.old _ h.j.fb
  have hm := h.old _ h.j.fm
  have h1 := h.pP
  have h2 := h.lt
  have k1 := hs.2.kept h.mblk fun g => by omega
  have k2 := hs.2.kept h.blk fun g => by omega
  exact ⟨cells_at k1 0, cells_at k2 3, FStep.after h.below hs.step⟩
end

/-- What the look-up reads. -/
structure LkS (W : World) (b mb P : Nat) (id : Int) (v : Value) (r : Bool) : Prop where
  b2 : W.cell? ⟨b, 2, none⟩ = some (.map (some mb))
  p0 : W.cell? ⟨P, 0, none⟩ = some (.int .i64 id)
  lk : (Instr.lookup 58 (.map (some mb)) (.int .i64 id) true).run Try.prog W = .ok (.tuple #[v, .bool r]) W

set_option maxRecDepth 100000 in
set_option maxHeartbeats 2000000 in
theorem ftake_bad (b mb : Nat) (most room : Int) (D : DataW Unit) (loc : Int → Nat × Nat) (l : List Op) (p : Pc) (F : Nat → Prop) (w : World) (h : FJ w F b mb most room D loc l) (hv : vP p = false) :
    Calls Try.prog 17 #[.pointer (some ⟨b, 0, none⟩), .agg #[.int .i64 p.id, .int .i64 p.place, .bool p.more, .string p.body]] w (FTakeP w F b most room (took most room l p)) := by
  obtain ⟨i, pl, m, bd⟩ := p
  simp only at *
  have VA := Lib.hid fun wx => valid_any i pl m bd wx
  rw [hv] at VA
  have hr : took most room l ⟨i, pl, m, bd⟩ = ⟨l, ⟨#[]⟩, false, 1⟩ := by unfold took; rw [if_neg (by rw [hv]; decide)]
  rw [hr]
  have HS := Lib.hid fun wx (hx : Below w.heap.size w wx) => FStep.same h hx
  have HB : Hid (Below w.heap.size w (w.alloc (pcO i pl m bd))) := Lib.hid ((Below.refl _ _).alloc (Nat.le_refl _) _)
  clear h hv hr
  go_enter Try.func17, Try.ntmps17
  go_wp2_with (go_at_call 32; refine (VA.out _).mono ?_; rintro e w2 ⟨rfl, hb2⟩; have HB2 := Lib.hid (HB.out.trans (hb2.mono HB.out.size)); clear hb2)
  go_ret3
  exact ⟨rfl, HS.out _ HB2.out⟩

set_option maxRecDepth 100000 in
set_option maxHeartbeats 4000000 in
theorem ftake_n1 (b mb : Nat) (most room : Int) (D : DataW Unit) (loc : Int → Nat × Nat) (l : List Op) (p : Pc) (F : Nat → Prop) (w : World) (h : FJ w F b mb most room D loc l) (ok : OpsOk most l) (hm : limB most room = true) (hv : vP p = true) (hn : idxO l p.id = none) (hp : ¬ p.place = 0) :
    Calls Try.prog 17 #[.pointer (some ⟨b, 0, none⟩), .agg #[.int .i64 p.id, .int .i64 p.place, .bool p.more, .string p.body]] w (FTakeP w F b most room (took most room l p)) := by
  obtain ⟨i, pl, m, bd⟩ := p
  simp only at *
  obtain ⟨hm1, hm2, hm3, hm4⟩ := limB_spec hm
  have hpb := vP_body hv
  simp only at hpb
  have hid : numB i = true := by
    have h9 := hv
    simp only [vP, Bool.and_eq_true] at h9
    exact h9.1
  obtain ⟨hl, hbs⟩ := h.bound ok hm
  have VA := Lib.hid fun wx => valid_any i pl m bd wx
  rw [hv] at VA
  have HJ := Lib.hid h
  have FG := Lib.hid fun wx (hx : FJ wx F b mb most room D loc l) => forget_full b mb most room D loc l i F wx hx ok hm hid
  have hr : took most room l ⟨i, pl, m, bd⟩ = ⟨dropO l i, ⟨#[]⟩, false, 9⟩ := by
    unfold took dropO
    rw [if_pos hv]
    simp only [hn, tookN]
    simp [hp]
  rw [hr]
  have hlk : ∀ wx, Below w.heap.size w wx → (Instr.lookup 58 (.map (some mb)) (.int .i64 i) true).run Try.prog wx = .ok (.tuple #[.agg #[.slice none 0 0, .int .i64 0], .bool false]) wx := fun wx hx => by
    rw [(h.below hx).look hid]
    unfold msgAt
    rw [hn]
    rfl
  have e1 : decide (pl = 0) = false := decide_eq_false hp
  clear h hm hm1 hm2 hm3 hm4 hl hv hr hn ok hpb hid hbs
  have HLK := Lib.hid hlk
  clear hlk
  go_enter Try.func17, Try.ntmps17
  go_wp2_with (go_at_call 32; refine (VA.out _).mono ?_; rintro e w2 ⟨rfl, hb2⟩; have HB2 : Hid (Below w.heap.size w w2) := Lib.hid (((Below.refl _ _).alloc (Nat.le_refl _) (pcO i pl m bd)).trans (hb2.mono (by simp))); have hp2 : w2.heap[w.heap.size]? = some (pcO i pl m bd) := (hb2.block _ (by simp)).trans (heap_alloc_new _ _); have HP2 := Lib.hid hp2; clear hb2 hp2)
  have hS : LkS w2.drew b mb w.heap.size i (.agg #[.slice none 0 0, .int .i64 0]) false := ⟨(HB2.out.cell (p := ⟨b, 2, none⟩) (HJ.out.few _ HJ.out.fb)).trans (cells_at HJ.out.blk 2), cells_at HP2.out 0, HLK.out _ (HB2.out.trans ((show Below w2.heap.size w2 w2.drew from below_drewN' w2 1).mono HB2.out.size))⟩
  refine wp_region_C (S := fun W => LkS W b mb w.heap.size i (.agg #[.slice none 0 0, .int .i64 0]) false) (c := 11) (by kernel_rfl) ?_
  refine takeC 3 (i := 0) (d := 19) (v := .pointer (some ⟨b, 0, none⟩)) rfl rfl (by kernel_rfl) (by kernel_rfl) (by kernel_rfl) (by decide) (by kernel_rfl) (fun _ _ _ h => h) (by rfl) (by (rintro w ⟨b2, p0, lk⟩; go_simp)) hS ?_
  simp only [List.setIfInBounds_toArray, List.set_cons_zero, List.set_cons_succ]
  refine takeC 3 (i := 1) (d := 20) (v := .pointer (some ⟨b, 0, none⟩)) rfl rfl (by kernel_rfl) (by kernel_rfl) (by kernel_rfl) (by decide) (by kernel_rfl) (fun _ _ _ h => h) (by rfl) (by (rintro w ⟨b2, p0, lk⟩; go_simp)) hS ?_
  simp only [List.setIfInBounds_toArray, List.set_cons_zero, List.set_cons_succ]
  refine takeC 3 (i := 2) (d := 21) (v := .pointer (some ⟨b, 2, none⟩)) rfl rfl (by kernel_rfl) (by kernel_rfl) (by kernel_rfl) (by decide) (by kernel_rfl) (fun _ _ _ h => h) (by rfl) (by (rintro w ⟨b2, p0, lk⟩; go_simp)) hS ?_
  simp only [List.setIfInBounds_toArray, List.set_cons_zero, List.set_cons_succ]
  refine takeC 3 (i := 3) (d := 22) (v := .map (some mb)) rfl rfl (by kernel_rfl) (by kernel_rfl) (by kernel_rfl) (by decide) (by kernel_rfl) (fun _ _ _ h => h) (by rfl) (by (rintro w ⟨b2, p0, lk⟩; go_simp)) hS ?_
  simp only [List.setIfInBounds_toArray, List.set_cons_zero, List.set_cons_succ]
  refine takeC 3 (i := 4) (d := 23) (v := .pointer (some ⟨w.heap.size, 0, none⟩)) rfl rfl (by kernel_rfl) (by kernel_rfl) (by kernel_rfl) (by decide) (by kernel_rfl) (fun _ _ _ h => h) (by rfl) (by (rintro w ⟨b2, p0, lk⟩; go_simp)) hS ?_
  simp only [List.setIfInBounds_toArray, List.set_cons_zero, List.set_cons_succ]
  refine takeC 3 (i := 5) (d := 24) (v := .int .i64 i) rfl rfl (by kernel_rfl) (by kernel_rfl) (by kernel_rfl) (by decide) (by kernel_rfl) (fun _ _ _ h => h) (by rfl) (by (rintro w ⟨b2, p0, lk⟩; go_simp)) hS ?_
  simp only [List.setIfInBounds_toArray, List.set_cons_zero, List.set_cons_succ]
  refine takeC 3 (i := 6) (d := 25) (v := .tuple #[.agg #[.slice none 0 0, .int .i64 0], .bool false]) rfl rfl (by kernel_rfl) (by kernel_rfl) (by kernel_rfl) (by decide) (by kernel_rfl) (fun _ _ _ h => h) (by rfl) (by (rintro w ⟨b2, p0, lk⟩; go_simp)) hS ?_
  simp only [List.setIfInBounds_toArray, List.set_cons_zero, List.set_cons_succ]
  refine takeC 3 (i := 7) (d := 18) (v := .tuple #[.agg #[.slice none 0 0, .int .i64 0], .bool false]) rfl rfl (by kernel_rfl) (by kernel_rfl) (by kernel_rfl) (by decide) (by kernel_rfl) (fun _ _ _ h => h) (by rfl) (by (rintro w ⟨b2, p0, lk⟩; go_simp)) hS ?_
  simp only [List.setIfInBounds_toArray, List.set_cons_zero, List.set_cons_succ]
  refine takeC 3 (i := 8) (d := 26) (v := .agg #[.slice none 0 0, .int .i64 0]) rfl rfl (by kernel_rfl) (by kernel_rfl) (by kernel_rfl) (by decide) (by kernel_rfl) (fun _ _ _ h => h) (by rfl) (by (rintro w ⟨b2, p0, lk⟩; go_simp)) hS ?_
  simp only [List.setIfInBounds_toArray, List.set_cons_zero, List.set_cons_succ]
  refine takeA (i := 9) (d := 27) (v := .bool false) rfl rfl (by kernel_rfl) (by kernel_rfl) (by kernel_rfl) (by decide) (fun _ _ _ h => h) (by rfl) (by (intro w; go_simp)) (.inr hS) ?_
  simp only [List.setIfInBounds_toArray, List.set_cons_zero, List.set_cons_succ]
  refine stepU (i := 10) (by kernel_rfl) rfl (fun K hK => ?_)
  rw [if_pos (by rfl)]
  go_simp
  have hx1 : Below w2.heap.size w2 (w2.drew.alloc (.cells #[.slice none 0 0, .int .i64 0] 66)) := ((show Below w2.heap.size w2 w2.drew from below_drewN' w2 1)).alloc (Nat.le_refl _) _
  have hx2 := HB2.out.trans (hx1.mono HB2.out.size)
  have hS2 : LkS (w2.drew.alloc (.cells #[.slice none 0 0, .int .i64 0] 66)) b mb w.heap.size i (.agg #[.slice none 0 0, .int .i64 0]) false := ⟨(hx2.cell (p := ⟨b, 2, none⟩) (HJ.out.few _ HJ.out.fb)).trans (cells_at HJ.out.blk 2), (hx1.cell (p := ⟨w.heap.size, 0, none⟩) (Array.getElem?_eq_some_iff.1 HP2.out).1).trans (cells_at HP2.out 0), HLK.out _ hx2⟩
  refine hK.out _ _ hS2 ?_
  clear hK K
  refine stepC (by kernel_rfl) rfl (fun K hK => ?_)
  rw [if_pos (by rfl)]
  go_simp
  refine hK.out _ _ ?_
  clear hK K hx1 hx2 hS hS2
  refine takeA (i := 12) (d := 8) (v := .bool false) rfl rfl (by kernel_rfl) (by kernel_rfl) (by kernel_rfl) (by decide) (fun _ _ _ h => h) (by rfl) (by (intro w; go_simp)) (.inl (by kernel_rfl)) ?_
  simp only [List.setIfInBounds_toArray, List.set_cons_zero, List.set_cons_succ]
  refine doneC (by kernel_rfl) ?_ _
  have hx3 : Below w2.heap.size w2 (w2.alloc (.cells #[.slice none 0 0, .int .i64 0] 66)).drew := ((Below.refl _ w2).alloc (Nat.le_refl _) _).trans (show Below w2.heap.size (w2.alloc (.cells #[.slice none 0 0, .int .i64 0] 66)) (w2.alloc (.cells #[.slice none 0 0, .int .i64 0] 66)).drew from (below_drewN' _ 1).mono (by simp))
  have T3 : Hid (TkF w (w2.alloc (.cells #[.slice none 0 0, .int .i64 0] 66)).drew F b mb most room D loc l ⟨i, pl, m, bd⟩ w.heap.size w2.heap.size (.slice none 0 0) 0) := Lib.hid ⟨(hx3.block _ (Array.getElem?_eq_some_iff.1 HP2.out).1).trans HP2.out, heap_alloc_new w2 _, HJ.out.below (HB2.out.trans (hx3.mono HB2.out.size)), HB2.out.trans (hx3.mono HB2.out.size), rfl, (Array.getElem?_eq_some_iff.1 HP2.out).1, HJ.out.few⟩
  obtain ⟨M, hM⟩ : ∃ x, w2.heap.size = x := ⟨_, rfl⟩
  rw [hM] at T3 ⊢
  obtain ⟨w3, hw3⟩ : ∃ x, (w2.alloc (.cells #[.slice none 0 0, .int .i64 0] 66)).drew = x := ⟨_, rfl⟩
  rw [hw3] at T3 ⊢
  clear hw3 hM hx3 HP2 HB2 HLK VA
  obtain ⟨p0, p1, p2, p3⟩ := T3.out.cells
  obtain ⟨m0, m1⟩ := T3.out.mcells
  obtain ⟨b0, b1, b2, b3⟩ := T3.out.jcells
  go_wp2_with (go_at_call 29; refine (FG.out _ T3.out.j).mono ?_; rintro e w4 ⟨rfl, hs⟩; obtain ⟨z0, z3, hst⟩ := T3.out.far hs; have HS := Lib.hid hst; clear hst hs)
  go_ret3
  exact ⟨rfl, HS.out⟩

set_option maxRecDepth 100000 in
set_option maxHeartbeats 4000000 in
theorem ftake_n2 (b mb : Nat) (most room : Int) (D : DataW Unit) (loc : Int → Nat × Nat) (l : List Op) (p : Pc) (F : Nat → Prop) (w : World) (h : FJ w F b mb most room D loc l) (ok : OpsOk most l) (hm : limB most room = true) (hv : vP p = true) (hn : idxO l p.id = none) (hp : p.place = 0) (hmo : p.more = false) (hs : room < (p.body.size : Int)) :
    Calls Try.prog 17 #[.pointer (some ⟨b, 0, none⟩), .agg #[.int .i64 p.id, .int .i64 p.place, .bool p.more, .string p.body]] w (FTakeP w F b most room (took most room l p)) := by
  obtain ⟨i, pl, m, bd⟩ := p
  simp only at *
  obtain ⟨hm1, hm2, hm3, hm4⟩ := limB_spec hm
  have hpb := vP_body hv
  simp only at hpb
  have hid : numB i = true := by
    have h9 := hv
    simp only [vP, Bool.and_eq_true] at h9
    exact h9.1
  obtain ⟨hl, hbs⟩ := h.bound ok hm
  have VA := Lib.hid fun wx => valid_any i pl m bd wx
  rw [hv] at VA
  have HJ := Lib.hid h
  have FG := Lib.hid fun wx (hx : FJ wx F b mb most room D loc l) => forget_full b mb most room D loc l i F wx hx ok hm hid
  subst hmo
  have hr : took most room l ⟨i, pl, false, bd⟩ = ⟨dropO l i, ⟨#[]⟩, false, 11⟩ := by
    unfold took dropO
    rw [if_pos hv]
    simp only [hn, tookN]
    simp [hp, hs]
  rw [hr]
  have hlk : ∀ wx, Below w.heap.size w wx → (Instr.lookup 58 (.map (some mb)) (.int .i64 i) true).run Try.prog wx = .ok (.tuple #[.agg #[.slice none 0 0, .int .i64 0], .bool false]) wx := fun wx hx => by
    rw [(h.below hx).look hid]
    unfold msgAt
    rw [hn]
    rfl
  subst hp
  have e2 : decide ((65536 : Int) < (bd.size : Int)) = false := decide_eq_false (by omega)
  have e3 : decide (room < (bd.size : Int)) = true := decide_eq_true hs
  have hz : (bd.size : Int) ≤ 1000000 := by omega
  clear h hm hm1 hm2 hm3 hm4 hl hv hr hn ok hpb hid hbs hs
  have HLK := Lib.hid hlk
  clear hlk
  go_enter Try.func17, Try.ntmps17
  go_wp2_with (go_at_call 32; refine (VA.out _).mono ?_; rintro e w2 ⟨rfl, hb2⟩; have HB2 : Hid (Below w.heap.size w w2) := Lib.hid (((Below.refl _ _).alloc (Nat.le_refl _) (pcO i 0 false bd)).trans (hb2.mono (by simp))); have hp2 : w2.heap[w.heap.size]? = some (pcO i 0 false bd) := (hb2.block _ (by simp)).trans (heap_alloc_new _ _); have HP2 := Lib.hid hp2; clear hb2 hp2)
  have hS : LkS w2.drew b mb w.heap.size i (.agg #[.slice none 0 0, .int .i64 0]) false := ⟨(HB2.out.cell (p := ⟨b, 2, none⟩) (HJ.out.few _ HJ.out.fb)).trans (cells_at HJ.out.blk 2), cells_at HP2.out 0, HLK.out _ (HB2.out.trans ((show Below w2.heap.size w2 w2.drew from below_drewN' w2 1).mono HB2.out.size))⟩
  refine wp_region_C (S := fun W => LkS W b mb w.heap.size i (.agg #[.slice none 0 0, .int .i64 0]) false) (c := 11) (by kernel_rfl) ?_
  refine takeC 3 (i := 0) (d := 19) (v := .pointer (some ⟨b, 0, none⟩)) rfl rfl (by kernel_rfl) (by kernel_rfl) (by kernel_rfl) (by decide) (by kernel_rfl) (fun _ _ _ h => h) (by rfl) (by (rintro w ⟨b2, p0, lk⟩; go_simp)) hS ?_
  simp only [List.setIfInBounds_toArray, List.set_cons_zero, List.set_cons_succ]
  refine takeC 3 (i := 1) (d := 20) (v := .pointer (some ⟨b, 0, none⟩)) rfl rfl (by kernel_rfl) (by kernel_rfl) (by kernel_rfl) (by decide) (by kernel_rfl) (fun _ _ _ h => h) (by rfl) (by (rintro w ⟨b2, p0, lk⟩; go_simp)) hS ?_
  simp only [List.setIfInBounds_toArray, List.set_cons_zero, List.set_cons_succ]
  refine takeC 3 (i := 2) (d := 21) (v := .pointer (some ⟨b, 2, none⟩)) rfl rfl (by kernel_rfl) (by kernel_rfl) (by kernel_rfl) (by decide) (by kernel_rfl) (fun _ _ _ h => h) (by rfl) (by (rintro w ⟨b2, p0, lk⟩; go_simp)) hS ?_
  simp only [List.setIfInBounds_toArray, List.set_cons_zero, List.set_cons_succ]
  refine takeC 3 (i := 3) (d := 22) (v := .map (some mb)) rfl rfl (by kernel_rfl) (by kernel_rfl) (by kernel_rfl) (by decide) (by kernel_rfl) (fun _ _ _ h => h) (by rfl) (by (rintro w ⟨b2, p0, lk⟩; go_simp)) hS ?_
  simp only [List.setIfInBounds_toArray, List.set_cons_zero, List.set_cons_succ]
  refine takeC 3 (i := 4) (d := 23) (v := .pointer (some ⟨w.heap.size, 0, none⟩)) rfl rfl (by kernel_rfl) (by kernel_rfl) (by kernel_rfl) (by decide) (by kernel_rfl) (fun _ _ _ h => h) (by rfl) (by (rintro w ⟨b2, p0, lk⟩; go_simp)) hS ?_
  simp only [List.setIfInBounds_toArray, List.set_cons_zero, List.set_cons_succ]
  refine takeC 3 (i := 5) (d := 24) (v := .int .i64 i) rfl rfl (by kernel_rfl) (by kernel_rfl) (by kernel_rfl) (by decide) (by kernel_rfl) (fun _ _ _ h => h) (by rfl) (by (rintro w ⟨b2, p0, lk⟩; go_simp)) hS ?_
  simp only [List.setIfInBounds_toArray, List.set_cons_zero, List.set_cons_succ]
  refine takeC 3 (i := 6) (d := 25) (v := .tuple #[.agg #[.slice none 0 0, .int .i64 0], .bool false]) rfl rfl (by kernel_rfl) (by kernel_rfl) (by kernel_rfl) (by decide) (by kernel_rfl) (fun _ _ _ h => h) (by rfl) (by (rintro w ⟨b2, p0, lk⟩; go_simp)) hS ?_
  simp only [List.setIfInBounds_toArray, List.set_cons_zero, List.set_cons_succ]
  refine takeC 3 (i := 7) (d := 18) (v := .tuple #[.agg #[.slice none 0 0, .int .i64 0], .bool false]) rfl rfl (by kernel_rfl) (by kernel_rfl) (by kernel_rfl) (by decide) (by kernel_rfl) (fun _ _ _ h => h) (by rfl) (by (rintro w ⟨b2, p0, lk⟩; go_simp)) hS ?_
  simp only [List.setIfInBounds_toArray, List.set_cons_zero, List.set_cons_succ]
  refine takeC 3 (i := 8) (d := 26) (v := .agg #[.slice none 0 0, .int .i64 0]) rfl rfl (by kernel_rfl) (by kernel_rfl) (by kernel_rfl) (by decide) (by kernel_rfl) (fun _ _ _ h => h) (by rfl) (by (rintro w ⟨b2, p0, lk⟩; go_simp)) hS ?_
  simp only [List.setIfInBounds_toArray, List.set_cons_zero, List.set_cons_succ]
  refine takeA (i := 9) (d := 27) (v := .bool false) rfl rfl (by kernel_rfl) (by kernel_rfl) (by kernel_rfl) (by decide) (fun _ _ _ h => h) (by rfl) (by (intro w; go_simp)) (.inr hS) ?_
  simp only [List.setIfInBounds_toArray, List.set_cons_zero, List.set_cons_succ]
  refine stepU (i := 10) (by kernel_rfl) rfl (fun K hK => ?_)
  rw [if_pos (by rfl)]
  go_simp
  have hx1 : Below w2.heap.size w2 (w2.drew.alloc (.cells #[.slice none 0 0, .int .i64 0] 66)) := ((show Below w2.heap.size w2 w2.drew from below_drewN' w2 1)).alloc (Nat.le_refl _) _
  have hx2 := HB2.out.trans (hx1.mono HB2.out.size)
  have hS2 : LkS (w2.drew.alloc (.cells #[.slice none 0 0, .int .i64 0] 66)) b mb w.heap.size i (.agg #[.slice none 0 0, .int .i64 0]) false := ⟨(hx2.cell (p := ⟨b, 2, none⟩) (HJ.out.few _ HJ.out.fb)).trans (cells_at HJ.out.blk 2), (hx1.cell (p := ⟨w.heap.size, 0, none⟩) (Array.getElem?_eq_some_iff.1 HP2.out).1).trans (cells_at HP2.out 0), HLK.out _ hx2⟩
  refine hK.out _ _ hS2 ?_
  clear hK K
  refine stepC (by kernel_rfl) rfl (fun K hK => ?_)
  rw [if_pos (by rfl)]
  go_simp
  refine hK.out _ _ ?_
  clear hK K hx1 hx2 hS hS2
  refine takeA (i := 12) (d := 8) (v := .bool false) rfl rfl (by kernel_rfl) (by kernel_rfl) (by kernel_rfl) (by decide) (fun _ _ _ h => h) (by rfl) (by (intro w; go_simp)) (.inl (by kernel_rfl)) ?_
  simp only [List.setIfInBounds_toArray, List.set_cons_zero, List.set_cons_succ]
  refine doneC (by kernel_rfl) ?_ _
  have hx3 : Below w2.heap.size w2 (w2.alloc (.cells #[.slice none 0 0, .int .i64 0] 66)).drew := ((Below.refl _ w2).alloc (Nat.le_refl _) _).trans (show Below w2.heap.size (w2.alloc (.cells #[.slice none 0 0, .int .i64 0] 66)) (w2.alloc (.cells #[.slice none 0 0, .int .i64 0] 66)).drew from (below_drewN' _ 1).mono (by simp))
  have T3 : Hid (TkF w (w2.alloc (.cells #[.slice none 0 0, .int .i64 0] 66)).drew F b mb most room D loc l ⟨i, 0, false, bd⟩ w.heap.size w2.heap.size (.slice none 0 0) 0) := Lib.hid ⟨(hx3.block _ (Array.getElem?_eq_some_iff.1 HP2.out).1).trans HP2.out, heap_alloc_new w2 _, HJ.out.below (HB2.out.trans (hx3.mono HB2.out.size)), HB2.out.trans (hx3.mono HB2.out.size), rfl, (Array.getElem?_eq_some_iff.1 HP2.out).1, HJ.out.few⟩
  obtain ⟨M, hM⟩ : ∃ x, w2.heap.size = x := ⟨_, rfl⟩
  rw [hM] at T3 ⊢
  obtain ⟨w3, hw3⟩ : ∃ x, (w2.alloc (.cells #[.slice none 0 0, .int .i64 0] 66)).drew = x := ⟨_, rfl⟩
  rw [hw3] at T3 ⊢
  clear hw3 hM hx3 HP2 HB2 HLK VA
  obtain ⟨p0, p1, p2, p3⟩ := T3.out.cells
  obtain ⟨m0, m1⟩ := T3.out.mcells
  obtain ⟨b0, b1, b2, b3⟩ := T3.out.jcells
  go_wp2_with fail
  go_quiet (fail)
  have T3 := Lib.hid (T3.out.next (below_drewN' _ nq))
  go_wp2_with (go_at_call 29; refine (FG.out _ T3.out.j).mono ?_; rintro e w4 ⟨rfl, hs⟩; obtain ⟨z0, z3, hst⟩ := T3.out.far hs; have HS := Lib.hid hst; clear hst hs)
  go_ret3
  exact ⟨rfl, HS.out⟩

set_option maxRecDepth 100000 in
set_option maxHeartbeats 4000000 in
theorem ftake_n3 (b mb : Nat) (most room : Int) (D : DataW Unit) (loc : Int → Nat × Nat) (l : List Op) (p : Pc) (F : Nat → Prop) (w : World) (h : FJ w F b mb most room D loc l) (ok : OpsOk most l) (hm : limB most room = true) (hv : vP p = true) (hn : idxO l p.id = none) (hp : p.place = 0) (hmo : p.more = true) (hs : room < (bytesO l : Int) + (p.body.size : Int)) :
    Calls Try.prog 17 #[.pointer (some ⟨b, 0, none⟩), .agg #[.int .i64 p.id, .int .i64 p.place, .bool p.more, .string p.body]] w (FTakeP w F b most room (took most room l p)) := by
  obtain ⟨i, pl, m, bd⟩ := p
  simp only at *
  obtain ⟨hm1, hm2, hm3, hm4⟩ := limB_spec hm
  have hpb := vP_body hv
  simp only at hpb
  have hid : numB i = true := by
    have h9 := hv
    simp only [vP, Bool.and_eq_true] at h9
    exact h9.1
  obtain ⟨hl, hbs⟩ := h.bound ok hm
  have VA := Lib.hid fun wx => valid_any i pl m bd wx
  rw [hv] at VA
  have HJ := Lib.hid h
  have FG := Lib.hid fun wx (hx : FJ wx F b mb most room D loc l) => forget_full b mb most room D loc l i F wx hx ok hm hid
  subst hmo
  have hr : took most room l ⟨i, pl, true, bd⟩ = ⟨dropO l i, ⟨#[]⟩, false, 11⟩ := by
    unfold took dropO
    rw [if_pos hv]
    simp only [hn, tookN]
    simp [hp, hs]
  rw [hr]
  have hlk : ∀ wx, Below w.heap.size w wx → (Instr.lookup 58 (.map (some mb)) (.int .i64 i) true).run Try.prog wx = .ok (.tuple #[.agg #[.slice none 0 0, .int .i64 0], .bool false]) wx := fun wx hx => by
    rw [(h.below hx).look hid]
    unfold msgAt
    rw [hn]
    rfl
  subst hp
  obtain ⟨S, hS⟩ : ∃ S, bytesO l = S := ⟨_, rfl⟩
  have HSS := Lib.hid hS
  rw [hS] at hs hbs
  have e2 : decide ((65536 : Int) < (bd.size : Int)) = false := decide_eq_false (by omega)
  have e3 : decide (room < (S : Int) + (bd.size : Int)) = true := decide_eq_true hs
  have hz : (S : Int) + (bd.size : Int) ≤ 10000000 := by omega
  clear h hm hm1 hm2 hm3 hm4 hl hv hr hn ok hpb hid hbs hs hS
  have HLK := Lib.hid hlk
  clear hlk
  go_enter Try.func17, Try.ntmps17
  go_wp2_with (go_at_call 32; refine (VA.out _).mono ?_; rintro e w2 ⟨rfl, hb2⟩; have HB2 : Hid (Below w.heap.size w w2) := Lib.hid (((Below.refl _ _).alloc (Nat.le_refl _) (pcO i 0 true bd)).trans (hb2.mono (by simp))); have hp2 : w2.heap[w.heap.size]? = some (pcO i 0 true bd) := (hb2.block _ (by simp)).trans (heap_alloc_new _ _); have HP2 := Lib.hid hp2; clear hb2 hp2)
  have hS : LkS w2.drew b mb w.heap.size i (.agg #[.slice none 0 0, .int .i64 0]) false := ⟨(HB2.out.cell (p := ⟨b, 2, none⟩) (HJ.out.few _ HJ.out.fb)).trans (cells_at HJ.out.blk 2), cells_at HP2.out 0, HLK.out _ (HB2.out.trans ((show Below w2.heap.size w2 w2.drew from below_drewN' w2 1).mono HB2.out.size))⟩
  refine wp_region_C (S := fun W => LkS W b mb w.heap.size i (.agg #[.slice none 0 0, .int .i64 0]) false) (c := 11) (by kernel_rfl) ?_
  refine takeC 3 (i := 0) (d := 19) (v := .pointer (some ⟨b, 0, none⟩)) rfl rfl (by kernel_rfl) (by kernel_rfl) (by kernel_rfl) (by decide) (by kernel_rfl) (fun _ _ _ h => h) (by rfl) (by (rintro w ⟨b2, p0, lk⟩; go_simp)) hS ?_
  simp only [List.setIfInBounds_toArray, List.set_cons_zero, List.set_cons_succ]
  refine takeC 3 (i := 1) (d := 20) (v := .pointer (some ⟨b, 0, none⟩)) rfl rfl (by kernel_rfl) (by kernel_rfl) (by kernel_rfl) (by decide) (by kernel_rfl) (fun _ _ _ h => h) (by rfl) (by (rintro w ⟨b2, p0, lk⟩; go_simp)) hS ?_
  simp only [List.setIfInBounds_toArray, List.set_cons_zero, List.set_cons_succ]
  refine takeC 3 (i := 2) (d := 21) (v := .pointer (some ⟨b, 2, none⟩)) rfl rfl (by kernel_rfl) (by kernel_rfl) (by kernel_rfl) (by decide) (by kernel_rfl) (fun _ _ _ h => h) (by rfl) (by (rintro w ⟨b2, p0, lk⟩; go_simp)) hS ?_
  simp only [List.setIfInBounds_toArray, List.set_cons_zero, List.set_cons_succ]
  refine takeC 3 (i := 3) (d := 22) (v := .map (some mb)) rfl rfl (by kernel_rfl) (by kernel_rfl) (by kernel_rfl) (by decide) (by kernel_rfl) (fun _ _ _ h => h) (by rfl) (by (rintro w ⟨b2, p0, lk⟩; go_simp)) hS ?_
  simp only [List.setIfInBounds_toArray, List.set_cons_zero, List.set_cons_succ]
  refine takeC 3 (i := 4) (d := 23) (v := .pointer (some ⟨w.heap.size, 0, none⟩)) rfl rfl (by kernel_rfl) (by kernel_rfl) (by kernel_rfl) (by decide) (by kernel_rfl) (fun _ _ _ h => h) (by rfl) (by (rintro w ⟨b2, p0, lk⟩; go_simp)) hS ?_
  simp only [List.setIfInBounds_toArray, List.set_cons_zero, List.set_cons_succ]
  refine takeC 3 (i := 5) (d := 24) (v := .int .i64 i) rfl rfl (by kernel_rfl) (by kernel_rfl) (by kernel_rfl) (by decide) (by kernel_rfl) (fun _ _ _ h => h) (by rfl) (by (rintro w ⟨b2, p0, lk⟩; go_simp)) hS ?_
  simp only [List.setIfInBounds_toArray, List.set_cons_zero, List.set_cons_succ]
  refine takeC 3 (i := 6) (d := 25) (v := .tuple #[.agg #[.slice none 0 0, .int .i64 0], .bool false]) rfl rfl (by kernel_rfl) (by kernel_rfl) (by kernel_rfl) (by decide) (by kernel_rfl) (fun _ _ _ h => h) (by rfl) (by (rintro w ⟨b2, p0, lk⟩; go_simp)) hS ?_
  simp only [List.setIfInBounds_toArray, List.set_cons_zero, List.set_cons_succ]
  refine takeC 3 (i := 7) (d := 18) (v := .tuple #[.agg #[.slice none 0 0, .int .i64 0], .bool false]) rfl rfl (by kernel_rfl) (by kernel_rfl) (by kernel_rfl) (by decide) (by kernel_rfl) (fun _ _ _ h => h) (by rfl) (by (rintro w ⟨b2, p0, lk⟩; go_simp)) hS ?_
  simp only [List.setIfInBounds_toArray, List.set_cons_zero, List.set_cons_succ]
  refine takeC 3 (i := 8) (d := 26) (v := .agg #[.slice none 0 0, .int .i64 0]) rfl rfl (by kernel_rfl) (by kernel_rfl) (by kernel_rfl) (by decide) (by kernel_rfl) (fun _ _ _ h => h) (by rfl) (by (rintro w ⟨b2, p0, lk⟩; go_simp)) hS ?_
  simp only [List.setIfInBounds_toArray, List.set_cons_zero, List.set_cons_succ]
  refine takeA (i := 9) (d := 27) (v := .bool false) rfl rfl (by kernel_rfl) (by kernel_rfl) (by kernel_rfl) (by decide) (fun _ _ _ h => h) (by rfl) (by (intro w; go_simp)) (.inr hS) ?_
  simp only [List.setIfInBounds_toArray, List.set_cons_zero, List.set_cons_succ]
  refine stepU (i := 10) (by kernel_rfl) rfl (fun K hK => ?_)
  rw [if_pos (by rfl)]
  go_simp
  have hx1 : Below w2.heap.size w2 (w2.drew.alloc (.cells #[.slice none 0 0, .int .i64 0] 66)) := ((show Below w2.heap.size w2 w2.drew from below_drewN' w2 1)).alloc (Nat.le_refl _) _
  have hx2 := HB2.out.trans (hx1.mono HB2.out.size)
  have hS2 : LkS (w2.drew.alloc (.cells #[.slice none 0 0, .int .i64 0] 66)) b mb w.heap.size i (.agg #[.slice none 0 0, .int .i64 0]) false := ⟨(hx2.cell (p := ⟨b, 2, none⟩) (HJ.out.few _ HJ.out.fb)).trans (cells_at HJ.out.blk 2), (hx1.cell (p := ⟨w.heap.size, 0, none⟩) (Array.getElem?_eq_some_iff.1 HP2.out).1).trans (cells_at HP2.out 0), HLK.out _ hx2⟩
  refine hK.out _ _ hS2 ?_
  clear hK K
  refine stepC (by kernel_rfl) rfl (fun K hK => ?_)
  rw [if_pos (by rfl)]
  go_simp
  refine hK.out _ _ ?_
  clear hK K hx1 hx2 hS hS2
  refine takeA (i := 12) (d := 8) (v := .bool false) rfl rfl (by kernel_rfl) (by kernel_rfl) (by kernel_rfl) (by decide) (fun _ _ _ h => h) (by rfl) (by (intro w; go_simp)) (.inl (by kernel_rfl)) ?_
  simp only [List.setIfInBounds_toArray, List.set_cons_zero, List.set_cons_succ]
  refine doneC (by kernel_rfl) ?_ _
  have hx3 : Below w2.heap.size w2 (w2.alloc (.cells #[.slice none 0 0, .int .i64 0] 66)).drew := ((Below.refl _ w2).alloc (Nat.le_refl _) _).trans (show Below w2.heap.size (w2.alloc (.cells #[.slice none 0 0, .int .i64 0] 66)) (w2.alloc (.cells #[.slice none 0 0, .int .i64 0] 66)).drew from (below_drewN' _ 1).mono (by simp))
  have T3 : Hid (TkF w (w2.alloc (.cells #[.slice none 0 0, .int .i64 0] 66)).drew F b mb most room D loc l ⟨i, 0, true, bd⟩ w.heap.size w2.heap.size (.slice none 0 0) 0) := Lib.hid ⟨(hx3.block _ (Array.getElem?_eq_some_iff.1 HP2.out).1).trans HP2.out, heap_alloc_new w2 _, HJ.out.below (HB2.out.trans (hx3.mono HB2.out.size)), HB2.out.trans (hx3.mono HB2.out.size), rfl, (Array.getElem?_eq_some_iff.1 HP2.out).1, HJ.out.few⟩
  obtain ⟨M, hM⟩ : ∃ x, w2.heap.size = x := ⟨_, rfl⟩
  rw [hM] at T3 ⊢
  obtain ⟨w3, hw3⟩ : ∃ x, (w2.alloc (.cells #[.slice none 0 0, .int .i64 0] 66)).drew = x := ⟨_, rfl⟩
  rw [hw3] at T3 ⊢
  clear hw3 hM hx3 HP2 HB2 HLK VA
  obtain ⟨p0, p1, p2, p3⟩ := T3.out.cells
  obtain ⟨m0, m1⟩ := T3.out.mcells
  obtain ⟨b0, b1, b2, b3⟩ := T3.out.jcells
  rw [HSS.out] at b3
  go_wp2_with fail
  go_quiet (fail)
  have T3 := Lib.hid (T3.out.next (below_drewN' _ nq))
  go_wp2_with (go_at_call 29; refine (FG.out _ T3.out.j).mono ?_; rintro e w4 ⟨rfl, hs⟩; obtain ⟨z0, z3, hst⟩ := T3.out.far hs; have HS := Lib.hid hst; clear hst hs)
  go_ret3
  exact ⟨rfl, HS.out⟩

set_option maxRecDepth 100000 in
set_option maxHeartbeats 4000000 in
theorem ftake_n4 (b mb : Nat) (most room : Int) (D : DataW Unit) (loc : Int → Nat × Nat) (l : List Op) (p : Pc) (F : Nat → Prop) (w : World) (h : FJ w F b mb most room D loc l) (ok : OpsOk most l) (hm : limB most room = true) (hv : vP p = true) (hn : idxO l p.id = none) (hp : p.place = 0) (hmo : p.more = false) (hs : ¬ room < (p.body.size : Int)) :
    Calls Try.prog 17 #[.pointer (some ⟨b, 0, none⟩), .agg #[.int .i64 p.id, .int .i64 p.place, .bool p.more, .string p.body]] w (FTakeP w F b most room (took most room l p)) := by
  obtain ⟨i, pl, m, bd⟩ := p
  simp only at *
  obtain ⟨hm1, hm2, hm3, hm4⟩ := limB_spec hm
  have hpb := vP_body hv
  simp only at hpb
  have hid : numB i = true := by
    have h9 := hv
    simp only [vP, Bool.and_eq_true] at h9
    exact h9.1
  obtain ⟨hl, hbs⟩ := h.bound ok hm
  have VA := Lib.hid fun wx => valid_any i pl m bd wx
  rw [hv] at VA
  have HJ := Lib.hid h
  have FG := Lib.hid fun wx (hx : FJ wx F b mb most room D loc l) => forget_full b mb most room D loc l i F wx hx ok hm hid
  subst hmo
  have hr : took most room l ⟨i, pl, false, bd⟩ = ⟨dropO l i, bd, true, 0⟩ := by
    unfold took dropO
    rw [if_pos hv]
    simp only [hn, tookN]
    simp [hp, hs]
  rw [hr]
  have hlk : ∀ wx, Below w.heap.size w wx → (Instr.lookup 58 (.map (some mb)) (.int .i64 i) true).run Try.prog wx = .ok (.tuple #[.agg #[.slice none 0 0, .int .i64 0], .bool false]) wx := fun wx hx => by
    rw [(h.below hx).look hid]
    unfold msgAt
    rw [hn]
    rfl
  subst hp
  have e2 : decide ((65536 : Int) < (bd.size : Int)) = false := decide_eq_false (by omega)
  have e3 : decide (room < (bd.size : Int)) = false := decide_eq_false hs
  have hz : (bd.size : Int) ≤ 1000000 := by omega
  have hcv := fun wx : World => Lib.run_convert_nil_bytes (P := Try.prog) wx 64 9 5 0 Try.underlying64 Try.underlying5 Try.underlying9
  have hz2 : ¬ 9223372036854775807 < (⟨#[]⟩ : ByteArray).size + bd.size := by have : (⟨#[]⟩ : ByteArray).size = 0 := rfl; omega
  clear h hm hm1 hm2 hm3 hm4 hl hv hr hn ok hpb hid hbs hs
  have HLK := Lib.hid hlk
  clear hlk
  go_enter Try.func17, Try.ntmps17
  go_wp2_with (go_at_call 32; refine (VA.out _).mono ?_; rintro e w2 ⟨rfl, hb2⟩; have HB2 : Hid (Below w.heap.size w w2) := Lib.hid (((Below.refl _ _).alloc (Nat.le_refl _) (pcO i 0 false bd)).trans (hb2.mono (by simp))); have hp2 : w2.heap[w.heap.size]? = some (pcO i 0 false bd) := (hb2.block _ (by simp)).trans (heap_alloc_new _ _); have HP2 := Lib.hid hp2; clear hb2 hp2)
  have hS : LkS w2.drew b mb w.heap.size i (.agg #[.slice none 0 0, .int .i64 0]) false := ⟨(HB2.out.cell (p := ⟨b, 2, none⟩) (HJ.out.few _ HJ.out.fb)).trans (cells_at HJ.out.blk 2), cells_at HP2.out 0, HLK.out _ (HB2.out.trans ((show Below w2.heap.size w2 w2.drew from below_drewN' w2 1).mono HB2.out.size))⟩
  refine wp_region_C (S := fun W => LkS W b mb w.heap.size i (.agg #[.slice none 0 0, .int .i64 0]) false) (c := 11) (by kernel_rfl) ?_
  refine takeC 3 (i := 0) (d := 19) (v := .pointer (some ⟨b, 0, none⟩)) rfl rfl (by kernel_rfl) (by kernel_rfl) (by kernel_rfl) (by decide) (by kernel_rfl) (fun _ _ _ h => h) (by rfl) (by (rintro w ⟨b2, p0, lk⟩; go_simp)) hS ?_
  simp only [List.setIfInBounds_toArray, List.set_cons_zero, List.set_cons_succ]
  refine takeC 3 (i := 1) (d := 20) (v := .pointer (some ⟨b, 0, none⟩)) rfl rfl (by kernel_rfl) (by kernel_rfl) (by kernel_rfl) (by decide) (by kernel_rfl) (fun _ _ _ h => h) (by rfl) (by (rintro w ⟨b2, p0, lk⟩; go_simp)) hS ?_
  simp only [List.setIfInBounds_toArray, List.set_cons_zero, List.set_cons_succ]
  refine takeC 3 (i := 2) (d := 21) (v := .pointer (some ⟨b, 2, none⟩)) rfl rfl (by kernel_rfl) (by kernel_rfl) (by kernel_rfl) (by decide) (by kernel_rfl) (fun _ _ _ h => h) (by rfl) (by (rintro w ⟨b2, p0, lk⟩; go_simp)) hS ?_
  simp only [List.setIfInBounds_toArray, List.set_cons_zero, List.set_cons_succ]
  refine takeC 3 (i := 3) (d := 22) (v := .map (some mb)) rfl rfl (by kernel_rfl) (by kernel_rfl) (by kernel_rfl) (by decide) (by kernel_rfl) (fun _ _ _ h => h) (by rfl) (by (rintro w ⟨b2, p0, lk⟩; go_simp)) hS ?_
  simp only [List.setIfInBounds_toArray, List.set_cons_zero, List.set_cons_succ]
  refine takeC 3 (i := 4) (d := 23) (v := .pointer (some ⟨w.heap.size, 0, none⟩)) rfl rfl (by kernel_rfl) (by kernel_rfl) (by kernel_rfl) (by decide) (by kernel_rfl) (fun _ _ _ h => h) (by rfl) (by (rintro w ⟨b2, p0, lk⟩; go_simp)) hS ?_
  simp only [List.setIfInBounds_toArray, List.set_cons_zero, List.set_cons_succ]
  refine takeC 3 (i := 5) (d := 24) (v := .int .i64 i) rfl rfl (by kernel_rfl) (by kernel_rfl) (by kernel_rfl) (by decide) (by kernel_rfl) (fun _ _ _ h => h) (by rfl) (by (rintro w ⟨b2, p0, lk⟩; go_simp)) hS ?_
  simp only [List.setIfInBounds_toArray, List.set_cons_zero, List.set_cons_succ]
  refine takeC 3 (i := 6) (d := 25) (v := .tuple #[.agg #[.slice none 0 0, .int .i64 0], .bool false]) rfl rfl (by kernel_rfl) (by kernel_rfl) (by kernel_rfl) (by decide) (by kernel_rfl) (fun _ _ _ h => h) (by rfl) (by (rintro w ⟨b2, p0, lk⟩; go_simp)) hS ?_
  simp only [List.setIfInBounds_toArray, List.set_cons_zero, List.set_cons_succ]
  refine takeC 3 (i := 7) (d := 18) (v := .tuple #[.agg #[.slice none 0 0, .int .i64 0], .bool false]) rfl rfl (by kernel_rfl) (by kernel_rfl) (by kernel_rfl) (by decide) (by kernel_rfl) (fun _ _ _ h => h) (by rfl) (by (rintro w ⟨b2, p0, lk⟩; go_simp)) hS ?_
  simp only [List.setIfInBounds_toArray, List.set_cons_zero, List.set_cons_succ]
  refine takeC 3 (i := 8) (d := 26) (v := .agg #[.slice none 0 0, .int .i64 0]) rfl rfl (by kernel_rfl) (by kernel_rfl) (by kernel_rfl) (by decide) (by kernel_rfl) (fun _ _ _ h => h) (by rfl) (by (rintro w ⟨b2, p0, lk⟩; go_simp)) hS ?_
  simp only [List.setIfInBounds_toArray, List.set_cons_zero, List.set_cons_succ]
  refine takeA (i := 9) (d := 27) (v := .bool false) rfl rfl (by kernel_rfl) (by kernel_rfl) (by kernel_rfl) (by decide) (fun _ _ _ h => h) (by rfl) (by (intro w; go_simp)) (.inr hS) ?_
  simp only [List.setIfInBounds_toArray, List.set_cons_zero, List.set_cons_succ]
  refine stepU (i := 10) (by kernel_rfl) rfl (fun K hK => ?_)
  rw [if_pos (by rfl)]
  go_simp
  have hx1 : Below w2.heap.size w2 (w2.drew.alloc (.cells #[.slice none 0 0, .int .i64 0] 66)) := ((show Below w2.heap.size w2 w2.drew from below_drewN' w2 1)).alloc (Nat.le_refl _) _
  have hx2 := HB2.out.trans (hx1.mono HB2.out.size)
  have hS2 : LkS (w2.drew.alloc (.cells #[.slice none 0 0, .int .i64 0] 66)) b mb w.heap.size i (.agg #[.slice none 0 0, .int .i64 0]) false := ⟨(hx2.cell (p := ⟨b, 2, none⟩) (HJ.out.few _ HJ.out.fb)).trans (cells_at HJ.out.blk 2), (hx1.cell (p := ⟨w.heap.size, 0, none⟩) (Array.getElem?_eq_some_iff.1 HP2.out).1).trans (cells_at HP2.out 0), HLK.out _ hx2⟩
  refine hK.out _ _ hS2 ?_
  clear hK K
  refine stepC (by kernel_rfl) rfl (fun K hK => ?_)
  rw [if_pos (by rfl)]
  go_simp
  refine hK.out _ _ ?_
  clear hK K hx1 hx2 hS hS2
  refine takeA (i := 12) (d := 8) (v := .bool false) rfl rfl (by kernel_rfl) (by kernel_rfl) (by kernel_rfl) (by decide) (fun _ _ _ h => h) (by rfl) (by (intro w; go_simp)) (.inl (by kernel_rfl)) ?_
  simp only [List.setIfInBounds_toArray, List.set_cons_zero, List.set_cons_succ]
  refine doneC (by kernel_rfl) ?_ _
  have hx3 : Below w2.heap.size w2 (w2.alloc (.cells #[.slice none 0 0, .int .i64 0] 66)).drew := ((Below.refl _ w2).alloc (Nat.le_refl _) _).trans (show Below w2.heap.size (w2.alloc (.cells #[.slice none 0 0, .int .i64 0] 66)) (w2.alloc (.cells #[.slice none 0 0, .int .i64 0] 66)).drew from (below_drewN' _ 1).mono (by simp))
  have T3 : Hid (TkF w (w2.alloc (.cells #[.slice none 0 0, .int .i64 0] 66)).drew F b mb most room D loc l ⟨i, 0, false, bd⟩ w.heap.size w2.heap.size (.slice none 0 0) 0) := Lib.hid ⟨(hx3.block _ (Array.getElem?_eq_some_iff.1 HP2.out).1).trans HP2.out, heap_alloc_new w2 _, HJ.out.below (HB2.out.trans (hx3.mono HB2.out.size)), HB2.out.trans (hx3.mono HB2.out.size), rfl, (Array.getElem?_eq_some_iff.1 HP2.out).1, HJ.out.few⟩
  obtain ⟨M, hM⟩ : ∃ x, w2.heap.size = x := ⟨_, rfl⟩
  rw [hM] at T3 ⊢
  obtain ⟨w3, hw3⟩ : ∃ x, (w2.alloc (.cells #[.slice none 0 0, .int .i64 0] 66)).drew = x := ⟨_, rfl⟩
  rw [hw3] at T3 ⊢
  clear hw3 hM hx3 HP2 HB2 HLK VA
  obtain ⟨p0, p1, p2, p3⟩ := T3.out.cells
  obtain ⟨m0, m1⟩ := T3.out.mcells
  obtain ⟨b0, b1, b2, b3⟩ := T3.out.jcells
  go_wp2_with fail
  go_quiet (fail)
  have T3 := Lib.hid (T3.out.next (below_drewN' _ nq))
  go_wp2_with (go_at_call 29; refine (FG.out _ T3.out.j).mono ?_; rintro e w4 ⟨rfl, hs⟩; obtain ⟨z0, z3, hst⟩ := T3.out.far hs; have HS := Lib.hid hst; clear hst hs)
  go_ret3
  exact ⟨rfl, HS.out⟩

set_option maxRecDepth 100000 in
set_option maxHeartbeats 4000000 in
theorem ftake_n5 (b mb : Nat) (most room : Int) (D : DataW Unit) (loc : Int → Nat × Nat) (l : List Op) (p : Pc) (F : Nat → Prop) (w : World) (h : FJ w F b mb most room D loc l) (ok : OpsOk most l) (hm : limB most room = true) (hv : vP p = true) (hn : idxO l p.id = none) (hp : p.place = 0) (hmo : p.more = true) (hs : ¬ room < (bytesO l : Int) + (p.body.size : Int)) (hq : most ≤ (l.length : Int)) :
    Calls Try.prog 17 #[.pointer (some ⟨b, 0, none⟩), .agg #[.int .i64 p.id, .int .i64 p.place, .bool p.more, .string p.body]] w (FTakeP w F b most room (took most room l p)) := by
  obtain ⟨i, pl, m, bd⟩ := p
  simp only at *
  obtain ⟨hm1, hm2, hm3, hm4⟩ := limB_spec hm
  have hpb := vP_body hv
  simp only at hpb
  have hid : numB i = true := by
    have h9 := hv
    simp only [vP, Bool.and_eq_true] at h9
    exact h9.1
  obtain ⟨hl, hbs⟩ := h.bound ok hm
  have VA := Lib.hid fun wx => valid_any i pl m bd wx
  rw [hv] at VA
  have HJ := Lib.hid h
  have FG := Lib.hid fun wx (hx : FJ wx F b mb most room D loc l) => forget_full b mb most room D loc l i F wx hx ok hm hid
  subst hmo
  have hr : took most room l ⟨i, pl, true, bd⟩ = ⟨l, ⟨#[]⟩, false, 4⟩ := by
    unfold took
    rw [if_pos hv]
    simp only [hn, tookN]
    simp [hp, hs, hq]
  rw [hr]
  have hlk : ∀ wx, Below w.heap.size w wx → (Instr.lookup 58 (.map (some mb)) (.int .i64 i) true).run Try.prog wx = .ok (.tuple #[.agg #[.slice none 0 0, .int .i64 0], .bool false]) wx := fun wx hx => by
    rw [(h.below hx).look hid]
    unfold msgAt
    rw [hn]
    rfl
  subst hp
  obtain ⟨S, hS⟩ : ∃ S, bytesO l = S := ⟨_, rfl⟩
  have HSS := Lib.hid hS
  rw [hS] at hs hbs
  have e2 : decide ((65536 : Int) < (bd.size : Int)) = false := decide_eq_false (by omega)
  have e3 : decide (room < (S : Int) + (bd.size : Int)) = false := decide_eq_false hs
  have hz : (S : Int) + (bd.size : Int) ≤ 10000000 := by omega
  have hlm : (l.length : Int) = most := by have := ok.few; omega
  subst hlm
  clear h hm hm1 hm2 hm3 hm4 hl hv hr hn ok hpb hid hbs hs hS hq
  have HLK := Lib.hid hlk
  clear hlk
  go_enter Try.func17, Try.ntmps17
  go_wp2_with (go_at_call 32; refine (VA.out _).mono ?_; rintro e w2 ⟨rfl, hb2⟩; have HB2 : Hid (Below w.heap.size w w2) := Lib.hid (((Below.refl _ _).alloc (Nat.le_refl _) (pcO i 0 true bd)).trans (hb2.mono (by simp))); have hp2 : w2.heap[w.heap.size]? = some (pcO i 0 true bd) := (hb2.block _ (by simp)).trans (heap_alloc_new _ _); have HP2 := Lib.hid hp2; clear hb2 hp2)
  have hS : LkS w2.drew b mb w.heap.size i (.agg #[.slice none 0 0, .int .i64 0]) false := ⟨(HB2.out.cell (p := ⟨b, 2, none⟩) (HJ.out.few _ HJ.out.fb)).trans (cells_at HJ.out.blk 2), cells_at HP2.out 0, HLK.out _ (HB2.out.trans ((show Below w2.heap.size w2 w2.drew from below_drewN' w2 1).mono HB2.out.size))⟩
  refine wp_region_C (S := fun W => LkS W b mb w.heap.size i (.agg #[.slice none 0 0, .int .i64 0]) false) (c := 11) (by kernel_rfl) ?_
  refine takeC 3 (i := 0) (d := 19) (v := .pointer (some ⟨b, 0, none⟩)) rfl rfl (by kernel_rfl) (by kernel_rfl) (by kernel_rfl) (by decide) (by kernel_rfl) (fun _ _ _ h => h) (by rfl) (by (rintro w ⟨b2, p0, lk⟩; go_simp)) hS ?_
  simp only [List.setIfInBounds_toArray, List.set_cons_zero, List.set_cons_succ]
  refine takeC 3 (i := 1) (d := 20) (v := .pointer (some ⟨b, 0, none⟩)) rfl rfl (by kernel_rfl) (by kernel_rfl) (by kernel_rfl) (by decide) (by kernel_rfl) (fun _ _ _ h => h) (by rfl) (by (rintro w ⟨b2, p0, lk⟩; go_simp)) hS ?_
  simp only [List.setIfInBounds_toArray, List.set_cons_zero, List.set_cons_succ]
  refine takeC 3 (i := 2) (d := 21) (v := .pointer (some ⟨b, 2, none⟩)) rfl rfl (by kernel_rfl) (by kernel_rfl) (by kernel_rfl) (by decide) (by kernel_rfl) (fun _ _ _ h => h) (by rfl) (by (rintro w ⟨b2, p0, lk⟩; go_simp)) hS ?_
  simp only [List.setIfInBounds_toArray, List.set_cons_zero, List.set_cons_succ]
  refine takeC 3 (i := 3) (d := 22) (v := .map (some mb)) rfl rfl (by kernel_rfl) (by kernel_rfl) (by kernel_rfl) (by decide) (by kernel_rfl) (fun _ _ _ h => h) (by rfl) (by (rintro w ⟨b2, p0, lk⟩; go_simp)) hS ?_
  simp only [List.setIfInBounds_toArray, List.set_cons_zero, List.set_cons_succ]
  refine takeC 3 (i := 4) (d := 23) (v := .pointer (some ⟨w.heap.size, 0, none⟩)) rfl rfl (by kernel_rfl) (by kernel_rfl) (by kernel_rfl) (by decide) (by kernel_rfl) (fun _ _ _ h => h) (by rfl) (by (rintro w ⟨b2, p0, lk⟩; go_simp)) hS ?_
  simp only [List.setIfInBounds_toArray, List.set_cons_zero, List.set_cons_succ]
  refine takeC 3 (i := 5) (d := 24) (v := .int .i64 i) rfl rfl (by kernel_rfl) (by kernel_rfl) (by kernel_rfl) (by decide) (by kernel_rfl) (fun _ _ _ h => h) (by rfl) (by (rintro w ⟨b2, p0, lk⟩; go_simp)) hS ?_
  simp only [List.setIfInBounds_toArray, List.set_cons_zero, List.set_cons_succ]
  refine takeC 3 (i := 6) (d := 25) (v := .tuple #[.agg #[.slice none 0 0, .int .i64 0], .bool false]) rfl rfl (by kernel_rfl) (by kernel_rfl) (by kernel_rfl) (by decide) (by kernel_rfl) (fun _ _ _ h => h) (by rfl) (by (rintro w ⟨b2, p0, lk⟩; go_simp)) hS ?_
  simp only [List.setIfInBounds_toArray, List.set_cons_zero, List.set_cons_succ]
  refine takeC 3 (i := 7) (d := 18) (v := .tuple #[.agg #[.slice none 0 0, .int .i64 0], .bool false]) rfl rfl (by kernel_rfl) (by kernel_rfl) (by kernel_rfl) (by decide) (by kernel_rfl) (fun _ _ _ h => h) (by rfl) (by (rintro w ⟨b2, p0, lk⟩; go_simp)) hS ?_
  simp only [List.setIfInBounds_toArray, List.set_cons_zero, List.set_cons_succ]
  refine takeC 3 (i := 8) (d := 26) (v := .agg #[.slice none 0 0, .int .i64 0]) rfl rfl (by kernel_rfl) (by kernel_rfl) (by kernel_rfl) (by decide) (by kernel_rfl) (fun _ _ _ h => h) (by rfl) (by (rintro w ⟨b2, p0, lk⟩; go_simp)) hS ?_
  simp only [List.setIfInBounds_toArray, List.set_cons_zero, List.set_cons_succ]
  refine takeA (i := 9) (d := 27) (v := .bool false) rfl rfl (by kernel_rfl) (by kernel_rfl) (by kernel_rfl) (by decide) (fun _ _ _ h => h) (by rfl) (by (intro w; go_simp)) (.inr hS) ?_
  simp only [List.setIfInBounds_toArray, List.set_cons_zero, List.set_cons_succ]
  refine stepU (i := 10) (by kernel_rfl) rfl (fun K hK => ?_)
  rw [if_pos (by rfl)]
  go_simp
  have hx1 : Below w2.heap.size w2 (w2.drew.alloc (.cells #[.slice none 0 0, .int .i64 0] 66)) := ((show Below w2.heap.size w2 w2.drew from below_drewN' w2 1)).alloc (Nat.le_refl _) _
  have hx2 := HB2.out.trans (hx1.mono HB2.out.size)
  have hS2 : LkS (w2.drew.alloc (.cells #[.slice none 0 0, .int .i64 0] 66)) b mb w.heap.size i (.agg #[.slice none 0 0, .int .i64 0]) false := ⟨(hx2.cell (p := ⟨b, 2, none⟩) (HJ.out.few _ HJ.out.fb)).trans (cells_at HJ.out.blk 2), (hx1.cell (p := ⟨w.heap.size, 0, none⟩) (Array.getElem?_eq_some_iff.1 HP2.out).1).trans (cells_at HP2.out 0), HLK.out _ hx2⟩
  refine hK.out _ _ hS2 ?_
  clear hK K
  refine stepC (by kernel_rfl) rfl (fun K hK => ?_)
  rw [if_pos (by rfl)]
  go_simp
  refine hK.out _ _ ?_
  clear hK K hx1 hx2 hS hS2
  refine takeA (i := 12) (d := 8) (v := .bool false) rfl rfl (by kernel_rfl) (by kernel_rfl) (by kernel_rfl) (by decide) (fun _ _ _ h => h) (by rfl) (by (intro w; go_simp)) (.inl (by kernel_rfl)) ?_
  simp only [List.setIfInBounds_toArray, List.set_cons_zero, List.set_cons_succ]
  refine doneC (by kernel_rfl) ?_ _
  have hx3 : Below w2.heap.size w2 (w2.alloc (.cells #[.slice none 0 0, .int .i64 0] 66)).drew := ((Below.refl _ w2).alloc (Nat.le_refl _) _).trans (show Below w2.heap.size (w2.alloc (.cells #[.slice none 0 0, .int .i64 0] 66)) (w2.alloc (.cells #[.slice none 0 0, .int .i64 0] 66)).drew from (below_drewN' _ 1).mono (by simp))
  have T3 : Hid (TkF w (w2.alloc (.cells #[.slice none 0 0, .int .i64 0] 66)).drew F b mb (l.length : Int) room D loc l ⟨i, 0, true, bd⟩ w.heap.size w2.heap.size (.slice none 0 0) 0) := Lib.hid ⟨(hx3.block _ (Array.getElem?_eq_some_iff.1 HP2.out).1).trans HP2.out, heap_alloc_new w2 _, HJ.out.below (HB2.out.trans (hx3.mono HB2.out.size)), HB2.out.trans (hx3.mono HB2.out.size), rfl, (Array.getElem?_eq_some_iff.1 HP2.out).1, HJ.out.few⟩
  obtain ⟨M, hM⟩ : ∃ x, w2.heap.size = x := ⟨_, rfl⟩
  rw [hM] at T3 ⊢
  obtain ⟨w3, hw3⟩ : ∃ x, (w2.alloc (.cells #[.slice none 0 0, .int .i64 0] 66)).drew = x := ⟨_, rfl⟩
  rw [hw3] at T3 ⊢
  clear hw3 hM hx3 HP2 HB2 HLK VA
  obtain ⟨p0, p1, p2, p3⟩ := T3.out.cells
  obtain ⟨m0, m1⟩ := T3.out.mcells
  obtain ⟨b0, b1, b2, b3⟩ := T3.out.jcells
  rw [HSS.out] at b3
  go_wp2_with fail
  go_quiet (fail)
  have T3 := Lib.hid (T3.out.next (below_drewN' _ nq))
  obtain ⟨w4, hw4⟩ : ∃ x, w3.drewN nq = x := ⟨_, rfl⟩
  rw [hw4] at T3 ⊢
  clear hw4 p0 p1 p2 p3 m0 m1 b0 b1 b2 b3
  obtain ⟨p0, p1, p2, p3⟩ := T3.out.cells
  obtain ⟨m0, m1⟩ := T3.out.mcells
  obtain ⟨b0, b1, b2, b3⟩ := T3.out.jcells
  have hlen : ∀ ty d, (Builtin.len_ #[58] ty #[.map (some mb)]).run Try.prog (w4.drewN d) = .ok (.int .i64 l.length) (w4.drewN d) := fun ty d => by
    have h9 := T3.out.j.below (below_drewN' w4 d)
    rw [h9.own.len under58 ty, h9.size]
  go_wp2_with fail
  go_quiet (fail)
  have T3 := Lib.hid (T3.out.next (below_drewN' _ nq))
  go_wp2_with fail
  go_ret3
  exact ⟨rfl, FStep.same HJ.out T3.out.below⟩

end Go.Proofs.Yteblbpdpfegooaa
