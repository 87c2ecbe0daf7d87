/- frag's Take of a message that is open, and does not stay so. -/
import Derived.Test.YteblbpdpfegooaaJo
namespace Go.Proofs.Yteblbpdpfegooaa
open Go.RowKit Go.Sort Go.BigFrame Go.Maps
attribute [local go_sem ↓] Go.wp_at_zero Go.wp_at_succ

set_option maxRecDepth 100000 in
set_option maxHeartbeats 4000000 in
theorem ftake_s1 (b mb : Nat) (most room : Int) (D : DataW Unit) (loc : Int → Nat × Nat) (l : List Op) (p : Pc) (F : Nat → Prop) (w : World) (h : FJ w F b mb most room D loc l) (ok : OpsOk most l) (hm : limB most room = true) (hv : vP p = true) (k : Nat) (hk : k < l.length) (hn : idxO l p.id = some k) (hp : ¬ p.place = l[k].pieces) :
    Calls Try.prog 17 #[.pointer (some ⟨b, 0, none⟩), .agg #[.int .i64 p.id, .int .i64 p.place, .bool p.more, .string p.body]] w (FTakeP w F b most room (took most room l p)) := by
  obtain ⟨i, pl, m, bd⟩ := p
  simp only at *
  obtain ⟨hm1, hm2, hm3, hm4⟩ := limB_spec hm
  have hpb := vP_body hv
  simp only at hpb
  have hid : numB i = true := by
    have h9 := hv
    simp only [vP, Bool.and_eq_true] at h9
    exact h9.1
  obtain ⟨hl, hbs⟩ := h.bound ok hm
  have VA := Lib.hid fun wx => valid_any i pl m bd wx
  rw [hv] at VA
  have HJ := Lib.hid h
  have FG := Lib.hid fun wx (hx : FJ wx F b mb most room D loc l) => forget_full b mb most room D loc l i F wx hx ok hm hid
  have hr : took most room l ⟨i, pl, m, bd⟩ = tookS room l ⟨i, pl, m, bd⟩ k l[k] := by
    unfold took
    rw [if_pos hv]
    simp only [hn, getD_at hk]
  rw [hr]
  clear hr
  have hdr : l.eraseIdx k = dropO l i := by unfold dropO; rw [hn]
  have hxb := ok.body l[k] (List.getElem_mem hk)
  have hxp := ok.pieces l[k] (List.getElem_mem hk)
  have hrow := h.row l[k] (List.getElem_mem hk)
  have hxi := (idxO_lt hn).2.1
  have hfr := h.frow l[k] (List.getElem_mem hk)
  rw [hxi] at hrow hfr
  have hlk : ∀ wx, Below w.heap.size w wx → (Instr.lookup 58 (.map (some mb)) (.int .i64 i) true).run Try.prog wx = .ok (.tuple #[.agg #[.slice (some ⟨(loc i).1, 0, none⟩) l[k].body.size (loc i).2, .int .i64 l[k].pieces], .bool true]) wx := fun wx hx => by
    rw [(h.below hx).look hid]
    unfold msgAt
    rw [hn]
    simp only [getD_at hk]
    rfl
  unfold tookS
  simp only [hdr]
  clear hdr hxi
  obtain ⟨g, hg⟩ : ∃ g, (loc i).1 = g := ⟨_, rfl⟩
  obtain ⟨cp, hcp⟩ : ∃ cp, (loc i).2 = cp := ⟨_, rfl⟩
  obtain ⟨xb, hbb⟩ : ∃ s, l[k].body = s := ⟨_, rfl⟩
  obtain ⟨xp, hpc⟩ : ∃ pc, l[k].pieces = pc := ⟨_, rfl⟩
  simp only [hcp, hbb, hpc] at *
  rw [hg] at hrow hfr
  simp only [hg] at hlk
  rw [if_pos hp]
  have e1 : decide (pl = xp) = false := decide_eq_false hp
  clear h hm hm1 hm2 hm3 hm4 hl hv hn ok hpb hid hbs hxb hxp hg hcp hbb hpc hfr hrow
  have HLK := Lib.hid hlk
  clear hlk
  go_enter Try.func17, Try.ntmps17
  go_wp2_with (go_at_call 32; refine (VA.out _).mono ?_; rintro e w2 ⟨rfl, hb2⟩; have HB2 : Hid (Below w.heap.size w w2) := Lib.hid (((Below.refl _ _).alloc (Nat.le_refl _) (pcO i pl m bd)).trans (hb2.mono (by simp))); have hp2 : w2.heap[w.heap.size]? = some (pcO i pl m bd) := (hb2.block _ (by simp)).trans (heap_alloc_new _ _); have HP2 := Lib.hid hp2; clear hb2 hp2)
  have hS : LkS w2.drew b mb w.heap.size i (.agg #[.slice (some ⟨g, 0, none⟩) xb.size cp, .int .i64 xp]) true := ⟨(HB2.out.cell (p := ⟨b, 2, none⟩) (HJ.out.few _ HJ.out.fb)).trans (cells_at HJ.out.blk 2), cells_at HP2.out 0, HLK.out _ (HB2.out.trans ((show Below w2.heap.size w2 w2.drew from below_drewN' w2 1).mono HB2.out.size))⟩
  refine wp_region_C (S := fun W => LkS W b mb w.heap.size i (.agg #[.slice (some ⟨g, 0, none⟩) xb.size cp, .int .i64 xp]) true) (c := 11) (by kernel_rfl) ?_
  refine takeC 3 (i := 0) (d := 19) (v := .pointer (some ⟨b, 0, none⟩)) rfl rfl (by kernel_rfl) (by kernel_rfl) (by kernel_rfl) (by decide) (by kernel_rfl) (fun _ _ _ h => h) (by rfl) (by (rintro w ⟨b2, p0, lk⟩; go_simp)) hS ?_
  simp only [List.setIfInBounds_toArray, List.set_cons_zero, List.set_cons_succ]
  refine takeC 3 (i := 1) (d := 20) (v := .pointer (some ⟨b, 0, none⟩)) rfl rfl (by kernel_rfl) (by kernel_rfl) (by kernel_rfl) (by decide) (by kernel_rfl) (fun _ _ _ h => h) (by rfl) (by (rintro w ⟨b2, p0, lk⟩; go_simp)) hS ?_
  simp only [List.setIfInBounds_toArray, List.set_cons_zero, List.set_cons_succ]
  refine takeC 3 (i := 2) (d := 21) (v := .pointer (some ⟨b, 2, none⟩)) rfl rfl (by kernel_rfl) (by kernel_rfl) (by kernel_rfl) (by decide) (by kernel_rfl) (fun _ _ _ h => h) (by rfl) (by (rintro w ⟨b2, p0, lk⟩; go_simp)) hS ?_
  simp only [List.setIfInBounds_toArray, List.set_cons_zero, List.set_cons_succ]
  refine takeC 3 (i := 3) (d := 22) (v := .map (some mb)) rfl rfl (by kernel_rfl) (by kernel_rfl) (by kernel_rfl) (by decide) (by kernel_rfl) (fun _ _ _ h => h) (by rfl) (by (rintro w ⟨b2, p0, lk⟩; go_simp)) hS ?_
  simp only [List.setIfInBounds_toArray, List.set_cons_zero, List.set_cons_succ]
  refine takeC 3 (i := 4) (d := 23) (v := .pointer (some ⟨w.heap.size, 0, none⟩)) rfl rfl (by kernel_rfl) (by kernel_rfl) (by kernel_rfl) (by decide) (by kernel_rfl) (fun _ _ _ h => h) (by rfl) (by (rintro w ⟨b2, p0, lk⟩; go_simp)) hS ?_
  simp only [List.setIfInBounds_toArray, List.set_cons_zero, List.set_cons_succ]
  refine takeC 3 (i := 5) (d := 24) (v := .int .i64 i) rfl rfl (by kernel_rfl) (by kernel_rfl) (by kernel_rfl) (by decide) (by kernel_rfl) (fun _ _ _ h => h) (by rfl) (by (rintro w ⟨b2, p0, lk⟩; go_simp)) hS ?_
  simp only [List.setIfInBounds_toArray, List.set_cons_zero, List.set_cons_succ]
  refine takeC 3 (i := 6) (d := 25) (v := .tuple #[.agg #[.slice (some ⟨g, 0, none⟩) xb.size cp, .int .i64 xp], .bool true]) rfl rfl (by kernel_rfl) (by kernel_rfl) (by kernel_rfl) (by decide) (by kernel_rfl) (fun _ _ _ h => h) (by rfl) (by (rintro w ⟨b2, p0, lk⟩; go_simp)) hS ?_
  simp only [List.setIfInBounds_toArray, List.set_cons_zero, List.set_cons_succ]
  refine takeC 3 (i := 7) (d := 18) (v := .tuple #[.agg #[.slice (some ⟨g, 0, none⟩) xb.size cp, .int .i64 xp], .bool true]) rfl rfl (by kernel_rfl) (by kernel_rfl) (by kernel_rfl) (by decide) (by kernel_rfl) (fun _ _ _ h => h) (by rfl) (by (rintro w ⟨b2, p0, lk⟩; go_simp)) hS ?_
  simp only [List.setIfInBounds_toArray, List.set_cons_zero, List.set_cons_succ]
  refine takeC 3 (i := 8) (d := 26) (v := .agg #[.slice (some ⟨g, 0, none⟩) xb.size cp, .int .i64 xp]) rfl rfl (by kernel_rfl) (by kernel_rfl) (by kernel_rfl) (by decide) (by kernel_rfl) (fun _ _ _ h => h) (by rfl) (by (rintro w ⟨b2, p0, lk⟩; go_simp)) hS ?_
  simp only [List.setIfInBounds_toArray, List.set_cons_zero, List.set_cons_succ]
  refine takeA (i := 9) (d := 27) (v := .bool true) rfl rfl (by kernel_rfl) (by kernel_rfl) (by kernel_rfl) (by decide) (fun _ _ _ h => h) (by rfl) (by (intro w; go_simp)) (.inr hS) ?_
  simp only [List.setIfInBounds_toArray, List.set_cons_zero, List.set_cons_succ]
  refine stepU (i := 10) (by kernel_rfl) rfl (fun K hK => ?_)
  rw [if_pos (by rfl)]
  go_simp
  have hx1 : Below w2.heap.size w2 (w2.drew.alloc (.cells #[.slice none 0 0, .int .i64 0] 66)) := ((show Below w2.heap.size w2 w2.drew from below_drewN' w2 1)).alloc (Nat.le_refl _) _
  have hx2 := HB2.out.trans (hx1.mono HB2.out.size)
  have hS2 : LkS (w2.drew.alloc (.cells #[.slice none 0 0, .int .i64 0] 66)) b mb w.heap.size i (.agg #[.slice (some ⟨g, 0, none⟩) xb.size cp, .int .i64 xp]) true := ⟨(hx2.cell (p := ⟨b, 2, none⟩) (HJ.out.few _ HJ.out.fb)).trans (cells_at HJ.out.blk 2), (hx1.cell (p := ⟨w.heap.size, 0, none⟩) (Array.getElem?_eq_some_iff.1 HP2.out).1).trans (cells_at HP2.out 0), HLK.out _ hx2⟩
  refine hK.out _ _ hS2 ?_
  clear hK K
  refine stepC (by kernel_rfl) rfl (fun K hK => ?_)
  rw [if_pos (by rfl)]
  go_simp
  refine hK.out _ _ ?_
  clear hK K hx1 hx2 hS hS2
  refine takeA (i := 12) (d := 8) (v := .bool true) rfl rfl (by kernel_rfl) (by kernel_rfl) (by kernel_rfl) (by decide) (fun _ _ _ h => h) (by rfl) (by (intro w; go_simp)) (.inl (by kernel_rfl)) ?_
  simp only [List.setIfInBounds_toArray, List.set_cons_zero, List.set_cons_succ]
  refine doneC (by kernel_rfl) ?_ _
  have hx3 : Below w2.heap.size w2 (w2.alloc (.cells #[.slice (some ⟨g, 0, none⟩) xb.size cp, .int .i64 xp] 66)).drew := ((Below.refl _ w2).alloc (Nat.le_refl _) _).trans (show Below w2.heap.size (w2.alloc (.cells #[.slice (some ⟨g, 0, none⟩) xb.size cp, .int .i64 xp] 66)) (w2.alloc (.cells #[.slice (some ⟨g, 0, none⟩) xb.size cp, .int .i64 xp] 66)).drew from (below_drewN' _ 1).mono (by simp))
  have T3 : Hid (TkF w (w2.alloc (.cells #[.slice (some ⟨g, 0, none⟩) xb.size cp, .int .i64 xp] 66)).drew F b mb most room D loc l ⟨i, pl, m, bd⟩ w.heap.size w2.heap.size (.slice (some ⟨g, 0, none⟩) xb.size cp) xp) := Lib.hid ⟨(hx3.block _ (Array.getElem?_eq_some_iff.1 HP2.out).1).trans HP2.out, heap_alloc_new w2 _, HJ.out.below (HB2.out.trans (hx3.mono HB2.out.size)), HB2.out.trans (hx3.mono HB2.out.size), rfl, (Array.getElem?_eq_some_iff.1 HP2.out).1, HJ.out.few⟩
  obtain ⟨M, hM⟩ : ∃ x, w2.heap.size = x := ⟨_, rfl⟩
  rw [hM] at T3 ⊢
  obtain ⟨w3, hw3⟩ : ∃ x, (w2.alloc (.cells #[.slice (some ⟨g, 0, none⟩) xb.size cp, .int .i64 xp] 66)).drew = x := ⟨_, rfl⟩
  rw [hw3] at T3 ⊢
  clear hw3 hM hx3 HP2 HB2 HLK VA
  obtain ⟨p0, p1, p2, p3⟩ := T3.out.cells
  obtain ⟨m0, m1⟩ := T3.out.mcells
  obtain ⟨b0, b1, b2, b3⟩ := T3.out.jcells
  go_wp2_with (go_at_call 29; refine (FG.out _ T3.out.j).mono ?_; rintro e w4 ⟨rfl, hs⟩; obtain ⟨z0, z3, hst⟩ := T3.out.far hs; have HS := Lib.hid hst; clear hst hs)
  go_ret3
  exact ⟨rfl, HS.out⟩

set_option maxRecDepth 100000 in
set_option maxHeartbeats 4000000 in
theorem ftake_s2 (b mb : Nat) (most room : Int) (D : DataW Unit) (loc : Int → Nat × Nat) (l : List Op) (p : Pc) (F : Nat → Prop) (w : World) (h : FJ w F b mb most room D loc l) (ok : OpsOk most l) (hm : limB most room = true) (hv : vP p = true) (k : Nat) (hk : k < l.length) (hn : idxO l p.id = some k) (hp : p.place = l[k].pieces) (hs : 65536 < l[k].body.size + p.body.size) :
    Calls Try.prog 17 #[.pointer (some ⟨b, 0, none⟩), .agg #[.int .i64 p.id, .int .i64 p.place, .bool p.more, .string p.body]] w (FTakeP w F b most room (took most room l p)) := by
  obtain ⟨i, pl, m, bd⟩ := p
  simp only at *
  obtain ⟨hm1, hm2, hm3, hm4⟩ := limB_spec hm
  have hpb := vP_body hv
  simp only at hpb
  have hid : numB i = true := by
    have h9 := hv
    simp only [vP, Bool.and_eq_true] at h9
    exact h9.1
  obtain ⟨hl, hbs⟩ := h.bound ok hm
  have VA := Lib.hid fun wx => valid_any i pl m bd wx
  rw [hv] at VA
  have HJ := Lib.hid h
  have FG := Lib.hid fun wx (hx : FJ wx F b mb most room D loc l) => forget_full b mb most room D loc l i F wx hx ok hm hid
  have hr : took most room l ⟨i, pl, m, bd⟩ = tookS room l ⟨i, pl, m, bd⟩ k l[k] := by
    unfold took
    rw [if_pos hv]
    simp only [hn, getD_at hk]
  rw [hr]
  clear hr
  have hdr : l.eraseIdx k = dropO l i := by unfold dropO; rw [hn]
  have hxb := ok.body l[k] (List.getElem_mem hk)
  have hxp := ok.pieces l[k] (List.getElem_mem hk)
  have hrow := h.row l[k] (List.getElem_mem hk)
  have hxi := (idxO_lt hn).2.1
  have hfr := h.frow l[k] (List.getElem_mem hk)
  rw [hxi] at hrow hfr
  have hlk : ∀ wx, Below w.heap.size w wx → (Instr.lookup 58 (.map (some mb)) (.int .i64 i) true).run Try.prog wx = .ok (.tuple #[.agg #[.slice (some ⟨(loc i).1, 0, none⟩) l[k].body.size (loc i).2, .int .i64 l[k].pieces], .bool true]) wx := fun wx hx => by
    rw [(h.below hx).look hid]
    unfold msgAt
    rw [hn]
    simp only [getD_at hk]
    rfl
  unfold tookS
  simp only [hdr]
  clear hdr hxi
  obtain ⟨g, hg⟩ : ∃ g, (loc i).1 = g := ⟨_, rfl⟩
  obtain ⟨cp, hcp⟩ : ∃ cp, (loc i).2 = cp := ⟨_, rfl⟩
  obtain ⟨xb, hbb⟩ : ∃ s, l[k].body = s := ⟨_, rfl⟩
  obtain ⟨xp, hpc⟩ : ∃ pc, l[k].pieces = pc := ⟨_, rfl⟩
  simp only [hcp, hbb, hpc] at *
  rw [hg] at hrow hfr
  simp only [hg] at hlk
  have h9 : 65536 < xb.size + bd.size ∨ room < (bytesO l : Int) + (bd.size : Int) := Or.inl hs
  rw [if_neg (fun g => g hp), if_pos h9]
  clear h9
  subst hp
  have e2 : decide ((65536 : Int) < (xb.size : Int) + (bd.size : Int)) = true := decide_eq_true (by omega)
  have hz : (xb.size : Int) + (bd.size : Int) ≤ 1000000 := by omega
  clear h hm hm1 hm2 hm3 hm4 hl hv hn ok hpb hid hbs hxb hxp hg hcp hbb hpc hfr hs hrow
  have HLK := Lib.hid hlk
  clear hlk
  go_enter Try.func17, Try.ntmps17
  go_wp2_with (go_at_call 32; refine (VA.out _).mono ?_; rintro e w2 ⟨rfl, hb2⟩; have HB2 : Hid (Below w.heap.size w w2) := Lib.hid (((Below.refl _ _).alloc (Nat.le_refl _) (pcO i pl m bd)).trans (hb2.mono (by simp))); have hp2 : w2.heap[w.heap.size]? = some (pcO i pl m bd) := (hb2.block _ (by simp)).trans (heap_alloc_new _ _); have HP2 := Lib.hid hp2; clear hb2 hp2)
  have hS : LkS w2.drew b mb w.heap.size i (.agg #[.slice (some ⟨g, 0, none⟩) xb.size cp, .int .i64 pl]) true := ⟨(HB2.out.cell (p := ⟨b, 2, none⟩) (HJ.out.few _ HJ.out.fb)).trans (cells_at HJ.out.blk 2), cells_at HP2.out 0, HLK.out _ (HB2.out.trans ((show Below w2.heap.size w2 w2.drew from below_drewN' w2 1).mono HB2.out.size))⟩
  refine wp_region_C (S := fun W => LkS W b mb w.heap.size i (.agg #[.slice (some ⟨g, 0, none⟩) xb.size cp, .int .i64 pl]) true) (c := 11) (by kernel_rfl) ?_
  refine takeC 3 (i := 0) (d := 19) (v := .pointer (some ⟨b, 0, none⟩)) rfl rfl (by kernel_rfl) (by kernel_rfl) (by kernel_rfl) (by decide) (by kernel_rfl) (fun _ _ _ h => h) (by rfl) (by (rintro w ⟨b2, p0, lk⟩; go_simp)) hS ?_
  simp only [List.setIfInBounds_toArray, List.set_cons_zero, List.set_cons_succ]
  refine takeC 3 (i := 1) (d := 20) (v := .pointer (some ⟨b, 0, none⟩)) rfl rfl (by kernel_rfl) (by kernel_rfl) (by kernel_rfl) (by decide) (by kernel_rfl) (fun _ _ _ h => h) (by rfl) (by (rintro w ⟨b2, p0, lk⟩; go_simp)) hS ?_
  simp only [List.setIfInBounds_toArray, List.set_cons_zero, List.set_cons_succ]
  refine takeC 3 (i := 2) (d := 21) (v := .pointer (some ⟨b, 2, none⟩)) rfl rfl (by kernel_rfl) (by kernel_rfl) (by kernel_rfl) (by decide) (by kernel_rfl) (fun _ _ _ h => h) (by rfl) (by (rintro w ⟨b2, p0, lk⟩; go_simp)) hS ?_
  simp only [List.setIfInBounds_toArray, List.set_cons_zero, List.set_cons_succ]
  refine takeC 3 (i := 3) (d := 22) (v := .map (some mb)) rfl rfl (by kernel_rfl) (by kernel_rfl) (by kernel_rfl) (by decide) (by kernel_rfl) (fun _ _ _ h => h) (by rfl) (by (rintro w ⟨b2, p0, lk⟩; go_simp)) hS ?_
  simp only [List.setIfInBounds_toArray, List.set_cons_zero, List.set_cons_succ]
  refine takeC 3 (i := 4) (d := 23) (v := .pointer (some ⟨w.heap.size, 0, none⟩)) rfl rfl (by kernel_rfl) (by kernel_rfl) (by kernel_rfl) (by decide) (by kernel_rfl) (fun _ _ _ h => h) (by rfl) (by (rintro w ⟨b2, p0, lk⟩; go_simp)) hS ?_
  simp only [List.setIfInBounds_toArray, List.set_cons_zero, List.set_cons_succ]
  refine takeC 3 (i := 5) (d := 24) (v := .int .i64 i) rfl rfl (by kernel_rfl) (by kernel_rfl) (by kernel_rfl) (by decide) (by kernel_rfl) (fun _ _ _ h => h) (by rfl) (by (rintro w ⟨b2, p0, lk⟩; go_simp)) hS ?_
  simp only [List.setIfInBounds_toArray, List.set_cons_zero, List.set_cons_succ]
  refine takeC 3 (i := 6) (d := 25) (v := .tuple #[.agg #[.slice (some ⟨g, 0, none⟩) xb.size cp, .int .i64 pl], .bool true]) rfl rfl (by kernel_rfl) (by kernel_rfl) (by kernel_rfl) (by decide) (by kernel_rfl) (fun _ _ _ h => h) (by rfl) (by (rintro w ⟨b2, p0, lk⟩; go_simp)) hS ?_
  simp only [List.setIfInBounds_toArray, List.set_cons_zero, List.set_cons_succ]
  refine takeC 3 (i := 7) (d := 18) (v := .tuple #[.agg #[.slice (some ⟨g, 0, none⟩) xb.size cp, .int .i64 pl], .bool true]) rfl rfl (by kernel_rfl) (by kernel_rfl) (by kernel_rfl) (by decide) (by kernel_rfl) (fun _ _ _ h => h) (by rfl) (by (rintro w ⟨b2, p0, lk⟩; go_simp)) hS ?_
  simp only [List.setIfInBounds_toArray, List.set_cons_zero, List.set_cons_succ]
  refine takeC 3 (i := 8) (d := 26) (v := .agg #[.slice (some ⟨g, 0, none⟩) xb.size cp, .int .i64 pl]) rfl rfl (by kernel_rfl) (by kernel_rfl) (by kernel_rfl) (by decide) (by kernel_rfl) (fun _ _ _ h => h) (by rfl) (by (rintro w ⟨b2, p0, lk⟩; go_simp)) hS ?_
  simp only [List.setIfInBounds_toArray, List.set_cons_zero, List.set_cons_succ]
  refine takeA (i := 9) (d := 27) (v := .bool true) rfl rfl (by kernel_rfl) (by kernel_rfl) (by kernel_rfl) (by decide) (fun _ _ _ h => h) (by rfl) (by (intro w; go_simp)) (.inr hS) ?_
  simp only [List.setIfInBounds_toArray, List.set_cons_zero, List.set_cons_succ]
  refine stepU (i := 10) (by kernel_rfl) rfl (fun K hK => ?_)
  rw [if_pos (by rfl)]
  go_simp
  have hx1 : Below w2.heap.size w2 (w2.drew.alloc (.cells #[.slice none 0 0, .int .i64 0] 66)) := ((show Below w2.heap.size w2 w2.drew from below_drewN' w2 1)).alloc (Nat.le_refl _) _
  have hx2 := HB2.out.trans (hx1.mono HB2.out.size)
  have hS2 : LkS (w2.drew.alloc (.cells #[.slice none 0 0, .int .i64 0] 66)) b mb w.heap.size i (.agg #[.slice (some ⟨g, 0, none⟩) xb.size cp, .int .i64 pl]) true := ⟨(hx2.cell (p := ⟨b, 2, none⟩) (HJ.out.few _ HJ.out.fb)).trans (cells_at HJ.out.blk 2), (hx1.cell (p := ⟨w.heap.size, 0, none⟩) (Array.getElem?_eq_some_iff.1 HP2.out).1).trans (cells_at HP2.out 0), HLK.out _ hx2⟩
  refine hK.out _ _ hS2 ?_
  clear hK K
  refine stepC (by kernel_rfl) rfl (fun K hK => ?_)
  rw [if_pos (by rfl)]
  go_simp
  refine hK.out _ _ ?_
  clear hK K hx1 hx2 hS hS2
  refine takeA (i := 12) (d := 8) (v := .bool true) rfl rfl (by kernel_rfl) (by kernel_rfl) (by kernel_rfl) (by decide) (fun _ _ _ h => h) (by rfl) (by (intro w; go_simp)) (.inl (by kernel_rfl)) ?_
  simp only [List.setIfInBounds_toArray, List.set_cons_zero, List.set_cons_succ]
  refine doneC (by kernel_rfl) ?_ _
  have hx3 : Below w2.heap.size w2 (w2.alloc (.cells #[.slice (some ⟨g, 0, none⟩) xb.size cp, .int .i64 pl] 66)).drew := ((Below.refl _ w2).alloc (Nat.le_refl _) _).trans (show Below w2.heap.size (w2.alloc (.cells #[.slice (some ⟨g, 0, none⟩) xb.size cp, .int .i64 pl] 66)) (w2.alloc (.cells #[.slice (some ⟨g, 0, none⟩) xb.size cp, .int .i64 pl] 66)).drew from (below_drewN' _ 1).mono (by simp))
  have T3 : Hid (TkF w (w2.alloc (.cells #[.slice (some ⟨g, 0, none⟩) xb.size cp, .int .i64 pl] 66)).drew F b mb most room D loc l ⟨i, pl, m, bd⟩ w.heap.size w2.heap.size (.slice (some ⟨g, 0, none⟩) xb.size cp) pl) := Lib.hid ⟨(hx3.block _ (Array.getElem?_eq_some_iff.1 HP2.out).1).trans HP2.out, heap_alloc_new w2 _, HJ.out.below (HB2.out.trans (hx3.mono HB2.out.size)), HB2.out.trans (hx3.mono HB2.out.size), rfl, (Array.getElem?_eq_some_iff.1 HP2.out).1, HJ.out.few⟩
  obtain ⟨M, hM⟩ : ∃ x, w2.heap.size = x := ⟨_, rfl⟩
  rw [hM] at T3 ⊢
  obtain ⟨w3, hw3⟩ : ∃ x, (w2.alloc (.cells #[.slice (some ⟨g, 0, none⟩) xb.size cp, .int .i64 pl] 66)).drew = x := ⟨_, rfl⟩
  rw [hw3] at T3 ⊢
  clear hw3 hM hx3 HP2 HB2 HLK VA
  obtain ⟨p0, p1, p2, p3⟩ := T3.out.cells
  obtain ⟨m0, m1⟩ := T3.out.mcells
  obtain ⟨b0, b1, b2, b3⟩ := T3.out.jcells
  go_wp2_with fail
  go_quiet (fail)
  have T3 := Lib.hid (T3.out.next (below_drewN' _ nq))
  go_wp2_with (go_at_call 29; refine (FG.out _ T3.out.j).mono ?_; rintro e w4 ⟨rfl, hs⟩; obtain ⟨z0, z3, hst⟩ := T3.out.far hs; have HS := Lib.hid hst; clear hst hs)
  go_ret3
  exact ⟨rfl, HS.out⟩

set_option maxRecDepth 100000 in
set_option maxHeartbeats 4000000 in
theorem ftake_s3 (b mb : Nat) (most room : Int) (D : DataW Unit) (loc : Int → Nat × Nat) (l : List Op) (p : Pc) (F : Nat → Prop) (w : World) (h : FJ w F b mb most room D loc l) (ok : OpsOk most l) (hm : limB most room = true) (hv : vP p = true) (k : Nat) (hk : k < l.length) (hn : idxO l p.id = some k) (hp : p.place = l[k].pieces) (hs : ¬ 65536 < l[k].body.size + p.body.size) (hq : room < (bytesO l : Int) + (p.body.size : Int)) :
    Calls Try.prog 17 #[.pointer (some ⟨b, 0, none⟩), .agg #[.int .i64 p.id, .int .i64 p.place, .bool p.more, .string p.body]] w (FTakeP w F b most room (took most room l p)) := by
  obtain ⟨i, pl, m, bd⟩ := p
  simp only at *
  obtain ⟨hm1, hm2, hm3, hm4⟩ := limB_spec hm
  have hpb := vP_body hv
  simp only at hpb
  have hid : numB i = true := by
    have h9 := hv
    simp only [vP, Bool.and_eq_true] at h9
    exact h9.1
  obtain ⟨hl, hbs⟩ := h.bound ok hm
  have VA := Lib.hid fun wx => valid_any i pl m bd wx
  rw [hv] at VA
  have HJ := Lib.hid h
  have FG := Lib.hid fun wx (hx : FJ wx F b mb most room D loc l) => forget_full b mb most room D loc l i F wx hx ok hm hid
  have hr : took most room l ⟨i, pl, m, bd⟩ = tookS room l ⟨i, pl, m, bd⟩ k l[k] := by
    unfold took
    rw [if_pos hv]
    simp only [hn, getD_at hk]
  rw [hr]
  clear hr
  have hdr : l.eraseIdx k = dropO l i := by unfold dropO; rw [hn]
  have hxb := ok.body l[k] (List.getElem_mem hk)
  have hxp := ok.pieces l[k] (List.getElem_mem hk)
  have hrow := h.row l[k] (List.getElem_mem hk)
  have hxi := (idxO_lt hn).2.1
  have hfr := h.frow l[k] (List.getElem_mem hk)
  rw [hxi] at hrow hfr
  have hlk : ∀ wx, Below w.heap.size w wx → (Instr.lookup 58 (.map (some mb)) (.int .i64 i) true).run Try.prog wx = .ok (.tuple #[.agg #[.slice (some ⟨(loc i).1, 0, none⟩) l[k].body.size (loc i).2, .int .i64 l[k].pieces], .bool true]) wx := fun wx hx => by
    rw [(h.below hx).look hid]
    unfold msgAt
    rw [hn]
    simp only [getD_at hk]
    rfl
  unfold tookS
  simp only [hdr]
  clear hdr hxi
  obtain ⟨g, hg⟩ : ∃ g, (loc i).1 = g := ⟨_, rfl⟩
  obtain ⟨cp, hcp⟩ : ∃ cp, (loc i).2 = cp := ⟨_, rfl⟩
  obtain ⟨xb, hbb⟩ : ∃ s, l[k].body = s := ⟨_, rfl⟩
  obtain ⟨xp, hpc⟩ : ∃ pc, l[k].pieces = pc := ⟨_, rfl⟩
  simp only [hcp, hbb, hpc] at *
  rw [hg] at hrow hfr
  simp only [hg] at hlk
  have h9 : 65536 < xb.size + bd.size ∨ room < (bytesO l : Int) + (bd.size : Int) := Or.inr hq
  rw [if_neg (fun g => g hp), if_pos h9]
  clear h9
  subst hp
  obtain ⟨S, hS⟩ : ∃ S, bytesO l = S := ⟨_, rfl⟩
  have HSS := Lib.hid hS
  rw [hS] at hq hbs
  have e2 : decide ((65536 : Int) < (xb.size : Int) + (bd.size : Int)) = false := decide_eq_false (by omega)
  have e3 : decide (room < (S : Int) + (bd.size : Int)) = true := decide_eq_true hq
  have hz3 : (S : Int) + (bd.size : Int) ≤ 10000000 := by omega
  have hz : (xb.size : Int) + (bd.size : Int) ≤ 1000000 := by omega
  clear h hm hm1 hm2 hm3 hm4 hl hv hn ok hpb hid hbs hxb hxp hg hcp hbb hpc hfr hs hq hS hrow
  have HLK := Lib.hid hlk
  clear hlk
  go_enter Try.func17, Try.ntmps17
  go_wp2_with (go_at_call 32; refine (VA.out _).mono ?_; rintro e w2 ⟨rfl, hb2⟩; have HB2 : Hid (Below w.heap.size w w2) := Lib.hid (((Below.refl _ _).alloc (Nat.le_refl _) (pcO i pl m bd)).trans (hb2.mono (by simp))); have hp2 : w2.heap[w.heap.size]? = some (pcO i pl m bd) := (hb2.block _ (by simp)).trans (heap_alloc_new _ _); have HP2 := Lib.hid hp2; clear hb2 hp2)
  have hS : LkS w2.drew b mb w.heap.size i (.agg #[.slice (some ⟨g, 0, none⟩) xb.size cp, .int .i64 pl]) true := ⟨(HB2.out.cell (p := ⟨b, 2, none⟩) (HJ.out.few _ HJ.out.fb)).trans (cells_at HJ.out.blk 2), cells_at HP2.out 0, HLK.out _ (HB2.out.trans ((show Below w2.heap.size w2 w2.drew from below_drewN' w2 1).mono HB2.out.size))⟩
  refine wp_region_C (S := fun W => LkS W b mb w.heap.size i (.agg #[.slice (some ⟨g, 0, none⟩) xb.size cp, .int .i64 pl]) true) (c := 11) (by kernel_rfl) ?_
  refine takeC 3 (i := 0) (d := 19) (v := .pointer (some ⟨b, 0, none⟩)) rfl rfl (by kernel_rfl) (by kernel_rfl) (by kernel_rfl) (by decide) (by kernel_rfl) (fun _ _ _ h => h) (by rfl) (by (rintro w ⟨b2, p0, lk⟩; go_simp)) hS ?_
  simp only [List.setIfInBounds_toArray, List.set_cons_zero, List.set_cons_succ]
  refine takeC 3 (i := 1) (d := 20) (v := .pointer (some ⟨b, 0, none⟩)) rfl rfl (by kernel_rfl) (by kernel_rfl) (by kernel_rfl) (by decide) (by kernel_rfl) (fun _ _ _ h => h) (by rfl) (by (rintro w ⟨b2, p0, lk⟩; go_simp)) hS ?_
  simp only [List.setIfInBounds_toArray, List.set_cons_zero, List.set_cons_succ]
  refine takeC 3 (i := 2) (d := 21) (v := .pointer (some ⟨b, 2, none⟩)) rfl rfl (by kernel_rfl) (by kernel_rfl) (by kernel_rfl) (by decide) (by kernel_rfl) (fun _ _ _ h => h) (by rfl) (by (rintro w ⟨b2, p0, lk⟩; go_simp)) hS ?_
  simp only [List.setIfInBounds_toArray, List.set_cons_zero, List.set_cons_succ]
  refine takeC 3 (i := 3) (d := 22) (v := .map (some mb)) rfl rfl (by kernel_rfl) (by kernel_rfl) (by kernel_rfl) (by decide) (by kernel_rfl) (fun _ _ _ h => h) (by rfl) (by (rintro w ⟨b2, p0, lk⟩; go_simp)) hS ?_
  simp only [List.setIfInBounds_toArray, List.set_cons_zero, List.set_cons_succ]
  refine takeC 3 (i := 4) (d := 23) (v := .pointer (some ⟨w.heap.size, 0, none⟩)) rfl rfl (by kernel_rfl) (by kernel_rfl) (by kernel_rfl) (by decide) (by kernel_rfl) (fun _ _ _ h => h) (by rfl) (by (rintro w ⟨b2, p0, lk⟩; go_simp)) hS ?_
  simp only [List.setIfInBounds_toArray, List.set_cons_zero, List.set_cons_succ]
  refine takeC 3 (i := 5) (d := 24) (v := .int .i64 i) rfl rfl (by kernel_rfl) (by kernel_rfl) (by kernel_rfl) (by decide) (by kernel_rfl) (fun _ _ _ h => h) (by rfl) (by (rintro w ⟨b2, p0, lk⟩; go_simp)) hS ?_
  simp only [List.setIfInBounds_toArray, List.set_cons_zero, List.set_cons_succ]
  refine takeC 3 (i := 6) (d := 25) (v := .tuple #[.agg #[.slice (some ⟨g, 0, none⟩) xb.size cp, .int .i64 pl], .bool true]) rfl rfl (by kernel_rfl) (by kernel_rfl) (by kernel_rfl) (by decide) (by kernel_rfl) (fun _ _ _ h => h) (by rfl) (by (rintro w ⟨b2, p0, lk⟩; go_simp)) hS ?_
  simp only [List.setIfInBounds_toArray, List.set_cons_zero, List.set_cons_succ]
  refine takeC 3 (i := 7) (d := 18) (v := .tuple #[.agg #[.slice (some ⟨g, 0, none⟩) xb.size cp, .int .i64 pl], .bool true]) rfl rfl (by kernel_rfl) (by kernel_rfl) (by kernel_rfl) (by decide) (by kernel_rfl) (fun _ _ _ h => h) (by rfl) (by (rintro w ⟨b2, p0, lk⟩; go_simp)) hS ?_
  simp only [List.setIfInBounds_toArray, List.set_cons_zero, List.set_cons_succ]
  refine takeC 3 (i := 8) (d := 26) (v := .agg #[.slice (some ⟨g, 0, none⟩) xb.size cp, .int .i64 pl]) rfl rfl (by kernel_rfl) (by kernel_rfl) (by kernel_rfl) (by decide) (by kernel_rfl) (fun _ _ _ h => h) (by rfl) (by (rintro w ⟨b2, p0, lk⟩; go_simp)) hS ?_
  simp only [List.setIfInBounds_toArray, List.set_cons_zero, List.set_cons_succ]
  refine takeA (i := 9) (d := 27) (v := .bool true) rfl rfl (by kernel_rfl) (by kernel_rfl) (by kernel_rfl) (by decide) (fun _ _ _ h => h) (by rfl) (by (intro w; go_simp)) (.inr hS) ?_
  simp only [List.setIfInBounds_toArray, List.set_cons_zero, List.set_cons_succ]
  refine stepU (i := 10) (by kernel_rfl) rfl (fun K hK => ?_)
  rw [if_pos (by rfl)]
  go_simp
  have hx1 : Below w2.heap.size w2 (w2.drew.alloc (.cells #[.slice none 0 0, .int .i64 0] 66)) := ((show Below w2.heap.size w2 w2.drew from below_drewN' w2 1)).alloc (Nat.le_refl _) _
  have hx2 := HB2.out.trans (hx1.mono HB2.out.size)
  have hS2 : LkS (w2.drew.alloc (.cells #[.slice none 0 0, .int .i64 0] 66)) b mb w.heap.size i (.agg #[.slice (some ⟨g, 0, none⟩) xb.size cp, .int .i64 pl]) true := ⟨(hx2.cell (p := ⟨b, 2, none⟩) (HJ.out.few _ HJ.out.fb)).trans (cells_at HJ.out.blk 2), (hx1.cell (p := ⟨w.heap.size, 0, none⟩) (Array.getElem?_eq_some_iff.1 HP2.out).1).trans (cells_at HP2.out 0), HLK.out _ hx2⟩
  refine hK.out _ _ hS2 ?_
  clear hK K
  refine stepC (by kernel_rfl) rfl (fun K hK => ?_)
  rw [if_pos (by rfl)]
  go_simp
  refine hK.out _ _ ?_
  clear hK K hx1 hx2 hS hS2
  refine takeA (i := 12) (d := 8) (v := .bool true) rfl rfl (by kernel_rfl) (by kernel_rfl) (by kernel_rfl) (by decide) (fun _ _ _ h => h) (by rfl) (by (intro w; go_simp)) (.inl (by kernel_rfl)) ?_
  simp only [List.setIfInBounds_toArray, List.set_cons_zero, List.set_cons_succ]
  refine doneC (by kernel_rfl) ?_ _
  have hx3 : Below w2.heap.size w2 (w2.alloc (.cells #[.slice (some ⟨g, 0, none⟩) xb.size cp, .int .i64 pl] 66)).drew := ((Below.refl _ w2).alloc (Nat.le_refl _) _).trans (show Below w2.heap.size (w2.alloc (.cells #[.slice (some ⟨g, 0, none⟩) xb.size cp, .int .i64 pl] 66)) (w2.alloc (.cells #[.slice (some ⟨g, 0, none⟩) xb.size cp, .int .i64 pl] 66)).drew from (below_drewN' _ 1).mono (by simp))
  have T3 : Hid (TkF w (w2.alloc (.cells #[.slice (some ⟨g, 0, none⟩) xb.size cp, .int .i64 pl] 66)).drew F b mb most room D loc l ⟨i, pl, m, bd⟩ w.heap.size w2.heap.size (.slice (some ⟨g, 0, none⟩) xb.size cp) pl) := Lib.hid ⟨(hx3.block _ (Array.getElem?_eq_some_iff.1 HP2.out).1).trans HP2.out, heap_alloc_new w2 _, HJ.out.below (HB2.out.trans (hx3.mono HB2.out.size)), HB2.out.trans (hx3.mono HB2.out.size), rfl, (Array.getElem?_eq_some_iff.1 HP2.out).1, HJ.out.few⟩
  obtain ⟨M, hM⟩ : ∃ x, w2.heap.size = x := ⟨_, rfl⟩
  rw [hM] at T3 ⊢
  obtain ⟨w3, hw3⟩ : ∃ x, (w2.alloc (.cells #[.slice (some ⟨g, 0, none⟩) xb.size cp, .int .i64 pl] 66)).drew = x := ⟨_, rfl⟩
  rw [hw3] at T3 ⊢
  clear hw3 hM hx3 HP2 HB2 HLK VA
  obtain ⟨p0, p1, p2, p3⟩ := T3.out.cells
  obtain ⟨m0, m1⟩ := T3.out.mcells
  obtain ⟨b0, b1, b2, b3⟩ := T3.out.jcells
  rw [HSS.out] at b3
  go_wp2_with fail
  go_quiet (fail)
  have T3 := Lib.hid (T3.out.next (below_drewN' _ nq))
  go_wp2_with (go_at_call 29; refine (FG.out _ T3.out.j).mono ?_; rintro e w4 ⟨rfl, hs⟩; obtain ⟨z0, z3, hst⟩ := T3.out.far hs; have HS := Lib.hid hst; clear hst hs)
  go_ret3
  exact ⟨rfl, HS.out⟩

set_option maxRecDepth 100000 in
set_option maxHeartbeats 4000000 in
theorem ftake_s4 (b mb : Nat) (most room : Int) (D : DataW Unit) (loc : Int → Nat × Nat) (l : List Op) (p : Pc) (F : Nat → Prop) (w : World) (h : FJ w F b mb most room D loc l) (ok : OpsOk most l) (hm : limB most room = true) (hv : vP p = true) (k : Nat) (hk : k < l.length) (hn : idxO l p.id = some k) (hp : p.place = l[k].pieces) (hs : ¬ 65536 < l[k].body.size + p.body.size) (hq : ¬ room < (bytesO l : Int) + (p.body.size : Int)) (hmo : p.more = false) :
    Calls Try.prog 17 #[.pointer (some ⟨b, 0, none⟩), .agg #[.int .i64 p.id, .int .i64 p.place, .bool p.more, .string p.body]] w (FTakeP w F b most room (took most room l p)) := by
  obtain ⟨i, pl, m, bd⟩ := p
  simp only at *
  obtain ⟨hm1, hm2, hm3, hm4⟩ := limB_spec hm
  have hpb := vP_body hv
  simp only at hpb
  have hid : numB i = true := by
    have h9 := hv
    simp only [vP, Bool.and_eq_true] at h9
    exact h9.1
  obtain ⟨hl, hbs⟩ := h.bound ok hm
  have VA := Lib.hid fun wx => valid_any i pl m bd wx
  rw [hv] at VA
  have HJ := Lib.hid h
  have FG := Lib.hid fun wx (hx : FJ wx F b mb most room D loc l) => forget_full b mb most room D loc l i F wx hx ok hm hid
  subst hmo
  have hr : took most room l ⟨i, pl, false, bd⟩ = tookS room l ⟨i, pl, false, bd⟩ k l[k] := by
    unfold took
    rw [if_pos hv]
    simp only [hn, getD_at hk]
  rw [hr]
  clear hr
  have hdr : l.eraseIdx k = dropO l i := by unfold dropO; rw [hn]
  have hxb := ok.body l[k] (List.getElem_mem hk)
  have hxp := ok.pieces l[k] (List.getElem_mem hk)
  have hrow := h.row l[k] (List.getElem_mem hk)
  have hxi := (idxO_lt hn).2.1
  have hfr := h.frow l[k] (List.getElem_mem hk)
  rw [hxi] at hrow hfr
  have hlk : ∀ wx, Below w.heap.size w wx → (Instr.lookup 58 (.map (some mb)) (.int .i64 i) true).run Try.prog wx = .ok (.tuple #[.agg #[.slice (some ⟨(loc i).1, 0, none⟩) l[k].body.size (loc i).2, .int .i64 l[k].pieces], .bool true]) wx := fun wx hx => by
    rw [(h.below hx).look hid]
    unfold msgAt
    rw [hn]
    simp only [getD_at hk]
    rfl
  unfold tookS
  simp only [hdr]
  clear hdr hxi
  obtain ⟨g, hg⟩ : ∃ g, (loc i).1 = g := ⟨_, rfl⟩
  obtain ⟨cp, hcp⟩ : ∃ cp, (loc i).2 = cp := ⟨_, rfl⟩
  obtain ⟨xb, hbb⟩ : ∃ s, l[k].body = s := ⟨_, rfl⟩
  obtain ⟨xp, hpc⟩ : ∃ pc, l[k].pieces = pc := ⟨_, rfl⟩
  simp only [hcp, hbb, hpc] at *
  rw [hg] at hrow hfr
  simp only [hg] at hlk
  rw [if_neg (fun g => g hp), if_neg (fun g => g.elim hs hq), if_pos trivial]
  subst hp
  obtain ⟨S, hS⟩ : ∃ S, bytesO l = S := ⟨_, rfl⟩
  have HSS := Lib.hid hS
  rw [hS] at hq hbs
  have e2 : decide ((65536 : Int) < (xb.size : Int) + (bd.size : Int)) = false := decide_eq_false (by omega)
  have e3 : decide (room < (S : Int) + (bd.size : Int)) = false := decide_eq_false hq
  have hz3 : (S : Int) + (bd.size : Int) ≤ 10000000 := by omega
  have hgF := hfr.2
  have HCV : Hid (∀ wx wy, Below w.heap.size w wx → Forgot wx F b mb most room D loc l i wy → (convert 64 9 (.slice (some ⟨g, 0, none⟩) xb.size cp)).run Try.prog wy = .ok (.string xb) wy) := Lib.hid fun wx wy hx hy => ((hrow.keep (hx.block _ hrow.lt)).keep (hy.2.block _ (Nat.lt_of_lt_of_le hrow.lt hx.size) fun e => e.elim hgF.1 hgF.2)).text
  have HZ2 : Hid (¬ 9223372036854775807 < xb.size + bd.size) := Lib.hid (by omega)
  have hz : (xb.size : Int) + (bd.size : Int) ≤ 1000000 := by omega
  clear h hm hm1 hm2 hm3 hm4 hl hv hn ok hpb hid hbs hxb hxp hg hcp hbb hpc hfr hs hq hS hrow hgF
  have HLK := Lib.hid hlk
  clear hlk
  go_enter Try.func17, Try.ntmps17
  go_wp2_with (go_at_call 32; refine (VA.out _).mono ?_; rintro e w2 ⟨rfl, hb2⟩; have HB2 : Hid (Below w.heap.size w w2) := Lib.hid (((Below.refl _ _).alloc (Nat.le_refl _) (pcO i pl false bd)).trans (hb2.mono (by simp))); have hp2 : w2.heap[w.heap.size]? = some (pcO i pl false bd) := (hb2.block _ (by simp)).trans (heap_alloc_new _ _); have HP2 := Lib.hid hp2; clear hb2 hp2)
  have hS : LkS w2.drew b mb w.heap.size i (.agg #[.slice (some ⟨g, 0, none⟩) xb.size cp, .int .i64 pl]) true := ⟨(HB2.out.cell (p := ⟨b, 2, none⟩) (HJ.out.few _ HJ.out.fb)).trans (cells_at HJ.out.blk 2), cells_at HP2.out 0, HLK.out _ (HB2.out.trans ((show Below w2.heap.size w2 w2.drew from below_drewN' w2 1).mono HB2.out.size))⟩
  refine wp_region_C (S := fun W => LkS W b mb w.heap.size i (.agg #[.slice (some ⟨g, 0, none⟩) xb.size cp, .int .i64 pl]) true) (c := 11) (by kernel_rfl) ?_
  refine takeC 3 (i := 0) (d := 19) (v := .pointer (some ⟨b, 0, none⟩)) rfl rfl (by kernel_rfl) (by kernel_rfl) (by kernel_rfl) (by decide) (by kernel_rfl) (fun _ _ _ h => h) (by rfl) (by (rintro w ⟨b2, p0, lk⟩; go_simp)) hS ?_
  simp only [List.setIfInBounds_toArray, List.set_cons_zero, List.set_cons_succ]
  refine takeC 3 (i := 1) (d := 20) (v := .pointer (some ⟨b, 0, none⟩)) rfl rfl (by kernel_rfl) (by kernel_rfl) (by kernel_rfl) (by decide) (by kernel_rfl) (fun _ _ _ h => h) (by rfl) (by (rintro w ⟨b2, p0, lk⟩; go_simp)) hS ?_
  simp only [List.setIfInBounds_toArray, List.set_cons_zero, List.set_cons_succ]
  refine takeC 3 (i := 2) (d := 21) (v := .pointer (some ⟨b, 2, none⟩)) rfl rfl (by kernel_rfl) (by kernel_rfl) (by kernel_rfl) (by decide) (by kernel_rfl) (fun _ _ _ h => h) (by rfl) (by (rintro w ⟨b2, p0, lk⟩; go_simp)) hS ?_
  simp only [List.setIfInBounds_toArray, List.set_cons_zero, List.set_cons_succ]
  refine takeC 3 (i := 3) (d := 22) (v := .map (some mb)) rfl rfl (by kernel_rfl) (by kernel_rfl) (by kernel_rfl) (by decide) (by kernel_rfl) (fun _ _ _ h => h) (by rfl) (by (rintro w ⟨b2, p0, lk⟩; go_simp)) hS ?_
  simp only [List.setIfInBounds_toArray, List.set_cons_zero, List.set_cons_succ]
  refine takeC 3 (i := 4) (d := 23) (v := .pointer (some ⟨w.heap.size, 0, none⟩)) rfl rfl (by kernel_rfl) (by kernel_rfl) (by kernel_rfl) (by decide) (by kernel_rfl) (fun _ _ _ h => h) (by rfl) (by (rintro w ⟨b2, p0, lk⟩; go_simp)) hS ?_
  simp only [List.setIfInBounds_toArray, List.set_cons_zero, List.set_cons_succ]
  refine takeC 3 (i := 5) (d := 24) (v := .int .i64 i) rfl rfl (by kernel_rfl) (by kernel_rfl) (by kernel_rfl) (by decide) (by kernel_rfl) (fun _ _ _ h => h) (by rfl) (by (rintro w ⟨b2, p0, lk⟩; go_simp)) hS ?_
  simp only [List.setIfInBounds_toArray, List.set_cons_zero, List.set_cons_succ]
  refine takeC 3 (i := 6) (d := 25) (v := .tuple #[.agg #[.slice (some ⟨g, 0, none⟩) xb.size cp, .int .i64 pl], .bool true]) rfl rfl (by kernel_rfl) (by kernel_rfl) (by kernel_rfl) (by decide) (by kernel_rfl) (fun _ _ _ h => h) (by rfl) (by (rintro w ⟨b2, p0, lk⟩; go_simp)) hS ?_
  simp only [List.setIfInBounds_toArray, List.set_cons_zero, List.set_cons_succ]
  refine takeC 3 (i := 7) (d := 18) (v := .tuple #[.agg #[.slice (some ⟨g, 0, none⟩) xb.size cp, .int .i64 pl], .bool true]) rfl rfl (by kernel_rfl) (by kernel_rfl) (by kernel_rfl) (by decide) (by kernel_rfl) (fun _ _ _ h => h) (by rfl) (by (rintro w ⟨b2, p0, lk⟩; go_simp)) hS ?_
  simp only [List.setIfInBounds_toArray, List.set_cons_zero, List.set_cons_succ]
  refine takeC 3 (i := 8) (d := 26) (v := .agg #[.slice (some ⟨g, 0, none⟩) xb.size cp, .int .i64 pl]) rfl rfl (by kernel_rfl) (by kernel_rfl) (by kernel_rfl) (by decide) (by kernel_rfl) (fun _ _ _ h => h) (by rfl) (by (rintro w ⟨b2, p0, lk⟩; go_simp)) hS ?_
  simp only [List.setIfInBounds_toArray, List.set_cons_zero, List.set_cons_succ]
  refine takeA (i := 9) (d := 27) (v := .bool true) rfl rfl (by kernel_rfl) (by kernel_rfl) (by kernel_rfl) (by decide) (fun _ _ _ h => h) (by rfl) (by (intro w; go_simp)) (.inr hS) ?_
  simp only [List.setIfInBounds_toArray, List.set_cons_zero, List.set_cons_succ]
  refine stepU (i := 10) (by kernel_rfl) rfl (fun K hK => ?_)
  rw [if_pos (by rfl)]
  go_simp
  have hx1 : Below w2.heap.size w2 (w2.drew.alloc (.cells #[.slice none 0 0, .int .i64 0] 66)) := ((show Below w2.heap.size w2 w2.drew from below_drewN' w2 1)).alloc (Nat.le_refl _) _
  have hx2 := HB2.out.trans (hx1.mono HB2.out.size)
  have hS2 : LkS (w2.drew.alloc (.cells #[.slice none 0 0, .int .i64 0] 66)) b mb w.heap.size i (.agg #[.slice (some ⟨g, 0, none⟩) xb.size cp, .int .i64 pl]) true := ⟨(hx2.cell (p := ⟨b, 2, none⟩) (HJ.out.few _ HJ.out.fb)).trans (cells_at HJ.out.blk 2), (hx1.cell (p := ⟨w.heap.size, 0, none⟩) (Array.getElem?_eq_some_iff.1 HP2.out).1).trans (cells_at HP2.out 0), HLK.out _ hx2⟩
  refine hK.out _ _ hS2 ?_
  clear hK K
  refine stepC (by kernel_rfl) rfl (fun K hK => ?_)
  rw [if_pos (by rfl)]
  go_simp
  refine hK.out _ _ ?_
  clear hK K hx1 hx2 hS hS2
  refine takeA (i := 12) (d := 8) (v := .bool true) rfl rfl (by kernel_rfl) (by kernel_rfl) (by kernel_rfl) (by decide) (fun _ _ _ h => h) (by rfl) (by (intro w; go_simp)) (.inl (by kernel_rfl)) ?_
  simp only [List.setIfInBounds_toArray, List.set_cons_zero, List.set_cons_succ]
  refine doneC (by kernel_rfl) ?_ _
  have hx3 : Below w2.heap.size w2 (w2.alloc (.cells #[.slice (some ⟨g, 0, none⟩) xb.size cp, .int .i64 pl] 66)).drew := ((Below.refl _ w2).alloc (Nat.le_refl _) _).trans (show Below w2.heap.size (w2.alloc (.cells #[.slice (some ⟨g, 0, none⟩) xb.size cp, .int .i64 pl] 66)) (w2.alloc (.cells #[.slice (some ⟨g, 0, none⟩) xb.size cp, .int .i64 pl] 66)).drew from (below_drewN' _ 1).mono (by simp))
  have T3 : Hid (TkF w (w2.alloc (.cells #[.slice (some ⟨g, 0, none⟩) xb.size cp, .int .i64 pl] 66)).drew F b mb most room D loc l ⟨i, pl, false, bd⟩ w.heap.size w2.heap.size (.slice (some ⟨g, 0, none⟩) xb.size cp) pl) := Lib.hid ⟨(hx3.block _ (Array.getElem?_eq_some_iff.1 HP2.out).1).trans HP2.out, heap_alloc_new w2 _, HJ.out.below (HB2.out.trans (hx3.mono HB2.out.size)), HB2.out.trans (hx3.mono HB2.out.size), rfl, (Array.getElem?_eq_some_iff.1 HP2.out).1, HJ.out.few⟩
  obtain ⟨M, hM⟩ : ∃ x, w2.heap.size = x := ⟨_, rfl⟩
  rw [hM] at T3 ⊢
  obtain ⟨w3, hw3⟩ : ∃ x, (w2.alloc (.cells #[.slice (some ⟨g, 0, none⟩) xb.size cp, .int .i64 pl] 66)).drew = x := ⟨_, rfl⟩
  rw [hw3] at T3 ⊢
  clear hw3 hM hx3 HP2 HB2 HLK VA
  obtain ⟨p0, p1, p2, p3⟩ := T3.out.cells
  obtain ⟨m0, m1⟩ := T3.out.mcells
  obtain ⟨b0, b1, b2, b3⟩ := T3.out.jcells
  rw [HSS.out] at b3
  go_wp2_with fail
  go_quiet (fail)
  have T3 := Lib.hid (T3.out.next (below_drewN' _ nq))
  go_wp2_with (go_at_call 29; refine (FG.out _ T3.out.j).mono ?_; rintro e w4 ⟨rfl, hs⟩; obtain ⟨z0, z3, hst⟩ := T3.out.far hs; have hcv := HCV.out _ _ T3.out.below hs; have HS := Lib.hid hst; have hz2 := HZ2.out; clear hst hs)
  go_ret3
  exact ⟨rfl, HS.out⟩

end Go.Proofs.Yteblbpdpfegooaa
