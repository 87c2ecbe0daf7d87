/- frag's forget. -/
import Derived.Test.YteblbpdpfegooaaJk
import Derived.Test.YteblbpdpfegooaaRg
namespace Go.Proofs.Yteblbpdpfegooaa
open Go.RowKit Go.Sort Go.BigFrame Go.Maps

/-- What the region reads. -/
structure FgS (W : World) (b mb : Nat) (id : Int) (bs : Nat) (v : Value) : Prop where
  b2 : W.cell? ⟨b, 2, none⟩ = some (.map (some mb))
  b3 : W.cell? ⟨b, 3, none⟩ = some (.int .i64 bs)
  lk : (Instr.lookup 58 (.map (some mb)) (.int .i64 id) false).run Try.prog W = .ok v W

theorem FJ.bound {w : World} {F : Nat → Prop} {b mb : Nat} {most room : Int} {D : DataW Unit} {loc : Int → Nat × Nat} {l : List Op} (_ : FJ w F b mb most room D loc l) (ok : OpsOk most l) (hm : limB most room = true) : l.length ≤ 100 ∧ bytesO l ≤ 6553600 := by
  have h1 := limB_spec hm
  have h2 := bytesO_le ok.body
  have h3 := ok.few
  omega

theorem field66 (a : Option Addr) (n c : Nat) (p : Int) (w : World) : (Instr.field 66 (.agg #[.slice a n c, .int .i64 p]) 0).run Try.prog w = .ok (.slice a n c) w := by kernel_rfl
theorem field66' (a : Option Addr) (n c : Nat) (p : Int) (w : World) : (Instr.field 66 (.agg #[.slice a n c, .int .i64 p]) 1).run Try.prog w = .ok (.int .i64 p) w := by kernel_rfl

/-- What forget leaves behind. -/
def Forgot (w : World) (F : Nat → Prop) (b mb : Nat) (most room : Int) (D : DataW Unit) (loc : Int → Nat × Nat) (l : List Op) (id : Int) (w' : World) : Prop :=
  FJ w' F b mb most room (D.del (.int .i64 id)) loc (dropO l id) ∧ But (fun k => k = b ∨ k = mb) w w'

/-- Behind the store and the delete. -/
theorem Forgot.mk {w w1 : World} {F : Nat → Prop} {b mb : Nat} {most room : Int} {D : DataW Unit} {loc : Int → Nat × Nat} {l : List Op} (h : FJ w F b mb most room D loc l) (id : Int) (n : Int) (hn : n = (bytesO (dropO l id) : Int))
    (ho : w1.ownsMap Try.prog 3 msgE mb 1000 (D.del (.int .i64 id))) (ht : (w.setCell ⟨b, 3, none⟩ (.int .i64 n)).drew.mapTurned w1 mb) : Forgot w F b mb most room D loc l id w1 := by
  have hg := ht.grown
  have hsz : w.heap.size ≤ w1.heap.size := by have := hg.size; simpa [World.setCell] using this
  have hb : (w.setCell ⟨b, 3, none⟩ (.int .i64 n)).heap[b]? = some (joinerO most room mb (bytesO (dropO l id))) := by
    rw [heap_setCell_same w b 3 _ 60 _ h.blk, hn]
    rfl
  have hblt := h.few _ h.fb
  refine ⟨h.drop id ((hg.block b (by simpa [World.setCell] using hblt) fun e => h.ne (Option.some.inj e)).trans hb) ho (fun k hk h1 h2 => (hg.block k (by simpa [World.setCell] using hk) fun e => h2 (Option.some.inj e)).trans (heap_setCell_other _ _ _ _ h1)) hsz, ?_⟩
  have h1 : But (fun k => k = b ∨ k = mb) w (w.setCell ⟨b, 3, none⟩ (.int .i64 n)) := But.setCell w ⟨b, 3, none⟩ _ (.inl rfl)
  have h2 : But (fun k => k = b ∨ k = mb) (w.setCell ⟨b, 3, none⟩ (.int .i64 n)) w1 := But.of_grown (row := some mb) ⟨hg.os, hg.tape, hg.output, hg.size, hg.block⟩ fun k hk => .inr (Option.some.inj hk).symm
  exact h1.trans h2 fun _ g => .inl g

set_option maxRecDepth 100000 in
set_option maxHeartbeats 2000000 in
theorem forget_none (b mb : Nat) (most room : Int) (D : DataW Unit) (loc : Int → Nat × Nat) (l : List Op) (id : Int) (F : Nat → Prop) (w : World) (h : FJ w F b mb most room D loc l) (ok : OpsOk most l) (hm : limB most room = true) (hid : numB id = true) (hn : idxO l id = none) :
    Calls Try.prog 29 #[.pointer (some ⟨b, 0, none⟩), .int .i64 id] w fun e w' => e = .returned (.tuple #[]) ∧ Forgot w F b mb most room D loc l id w' := by
  obtain ⟨hl, hbs⟩ := h.bound ok hm
  have HH := Lib.hid h
  have hkey := keyOf_num hid
  have hd : dropO l id = l := by unfold dropO; rw [hn]
  have hlk : (Instr.lookup 58 (.map (some mb)) (.int .i64 id) false).run Try.prog w.drew = .ok (.agg #[.slice none 0 0, .int .i64 0]) w.drew := by
    rw [(h.below (show Below w.heap.size w w.drew from below_drewN' w 1)).look1 hid]
    unfold msgAt
    rw [hn]
    rfl
  have hsub : ((bytesO l : Int) - (0)) = (bytesO (dropO l id) : Int) := by rw [hd]; omega
  obtain ⟨S, hS⟩ : ∃ S, bytesO l = S := ⟨_, rfl⟩
  have hblk := h.blk
  rw [hS] at hblk hsub hbs
  have hwr : IntKind.i64.wrap ((S : Int) - (0)) = (S : Int) - (0) := IntWalk.i64_in _ (by omega)
  have hS0 : FgS w.drew b mb id S (.agg #[.slice none 0 0, .int .i64 0]) := ⟨cells_at hblk 2, cells_at hblk 3, hlk⟩
  have HSUB := Lib.hid hsub
  have hfl := field66
  have hwr2 : IntKind.i64.wrap (S : Int) = (S : Int) := IntWalk.i64_in _ (by omega)
  have rf : w.frozen? ⟨b, 3, none⟩ = false := by simp [World.frozen?, hblk, joinerO]
  have b2 : w.cell? ⟨b, 2, none⟩ = some (.map (some mb)) := cells_at hblk 2
  have b3 : w.cell? ⟨b, 3, none⟩ = some (.int .i64 S) := cells_at hblk 3
  have HO : Hid (∀ v, (w.setCell ⟨b, 3, none⟩ v).drew.ownsMap Try.prog 3 msgE mb 1000 D) := Lib.hid fun v => (h.own.setCell (a := ⟨b, 3, none⟩) (fun e => h.ne e.symm) v)
  clear h hblk hlk hl hbs hS hsub ok hm hd
  go_enter Try.func29, Try.ntmps29
  go_wp2_with fail
  refine wp_region_C (S := fun W => FgS W b mb id S (.agg #[.slice none 0 0, .int .i64 0])) (c := 15) (by kernel_rfl) ?_
  refine takeC 3 (i := 0) (d := 4) (v := .pointer (some ⟨b, 0, none⟩)) rfl rfl (by kernel_rfl) (by kernel_rfl) (by kernel_rfl) (by decide) (by kernel_rfl) (fun _ _ _ h => h) (by rfl) (by (rintro w ⟨b2, b3, lk⟩; go_simp)) hS0 ?_
  simp only [List.setIfInBounds_toArray, List.set_cons_zero, List.set_cons_succ]
  refine takeC 3 (i := 1) (d := 5) (v := .pointer (some ⟨b, 0, none⟩)) rfl rfl (by kernel_rfl) (by kernel_rfl) (by kernel_rfl) (by decide) (by kernel_rfl) (fun _ _ _ h => h) (by rfl) (by (rintro w ⟨b2, b3, lk⟩; go_simp)) hS0 ?_
  simp only [List.setIfInBounds_toArray, List.set_cons_zero, List.set_cons_succ]
  refine takeC 3 (i := 2) (d := 6) (v := .pointer (some ⟨b, 3, none⟩)) rfl rfl (by kernel_rfl) (by kernel_rfl) (by kernel_rfl) (by decide) (by kernel_rfl) (fun _ _ _ h => h) (by rfl) (by (rintro w ⟨b2, b3, lk⟩; go_simp)) hS0 ?_
  simp only [List.setIfInBounds_toArray, List.set_cons_zero, List.set_cons_succ]
  refine takeC 3 (i := 3) (d := 7) (v := .int .i64 S) rfl rfl (by kernel_rfl) (by kernel_rfl) (by kernel_rfl) (by decide) (by kernel_rfl) (fun _ _ _ h => h) (by rfl) (by (rintro w ⟨b2, b3, lk⟩; go_simp)) hS0 ?_
  simp only [List.setIfInBounds_toArray, List.set_cons_zero, List.set_cons_succ]
  refine takeC 3 (i := 4) (d := 8) (v := .pointer (some ⟨b, 0, none⟩)) rfl rfl (by kernel_rfl) (by kernel_rfl) (by kernel_rfl) (by decide) (by kernel_rfl) (fun _ _ _ h => h) (by rfl) (by (rintro w ⟨b2, b3, lk⟩; go_simp)) hS0 ?_
  simp only [List.setIfInBounds_toArray, List.set_cons_zero, List.set_cons_succ]
  refine takeC 3 (i := 5) (d := 9) (v := .pointer (some ⟨b, 0, none⟩)) rfl rfl (by kernel_rfl) (by kernel_rfl) (by kernel_rfl) (by decide) (by kernel_rfl) (fun _ _ _ h => h) (by rfl) (by (rintro w ⟨b2, b3, lk⟩; go_simp)) hS0 ?_
  simp only [List.setIfInBounds_toArray, List.set_cons_zero, List.set_cons_succ]
  refine takeC 3 (i := 6) (d := 10) (v := .pointer (some ⟨b, 2, none⟩)) rfl rfl (by kernel_rfl) (by kernel_rfl) (by kernel_rfl) (by decide) (by kernel_rfl) (fun _ _ _ h => h) (by rfl) (by (rintro w ⟨b2, b3, lk⟩; go_simp)) hS0 ?_
  simp only [List.setIfInBounds_toArray, List.set_cons_zero, List.set_cons_succ]
  refine takeC 3 (i := 7) (d := 11) (v := .map (some mb)) rfl rfl (by kernel_rfl) (by kernel_rfl) (by kernel_rfl) (by decide) (by kernel_rfl) (fun _ _ _ h => h) (by rfl) (by (rintro w ⟨b2, b3, lk⟩; go_simp)) hS0 ?_
  simp only [List.setIfInBounds_toArray, List.set_cons_zero, List.set_cons_succ]
  refine takeC 3 (i := 8) (d := 12) (v := .int .i64 id) rfl rfl (by kernel_rfl) (by kernel_rfl) (by kernel_rfl) (by decide) (by kernel_rfl) (fun _ _ _ h => h) (by rfl) (by (rintro w ⟨b2, b3, lk⟩; go_simp)) hS0 ?_
  simp only [List.setIfInBounds_toArray, List.set_cons_zero, List.set_cons_succ]
  refine takeC 3 (i := 9) (d := 13) (v := .agg #[.slice none 0 0, .int .i64 0]) rfl rfl (by kernel_rfl) (by kernel_rfl) (by kernel_rfl) (by decide) (by kernel_rfl) (fun _ _ _ h => h) (by rfl) (by (rintro w ⟨b2, b3, lk⟩; go_simp)) hS0 ?_
  simp only [List.setIfInBounds_toArray, List.set_cons_zero, List.set_cons_succ]
  refine takeC 3 (i := 10) (d := 14) (v := .slice none 0 0) rfl rfl (by kernel_rfl) (by kernel_rfl) (by kernel_rfl) (by decide) (by kernel_rfl) (fun _ _ _ h => h) (by rfl) (by (rintro w ⟨b2, b3, lk⟩; go_simp)) hS0 ?_
  simp only [List.setIfInBounds_toArray, List.set_cons_zero, List.set_cons_succ]
  refine takeC 3 (i := 11) (d := 15) (v := .int .i64 (0)) rfl rfl (by kernel_rfl) (by kernel_rfl) (by kernel_rfl) (by decide) (by kernel_rfl) (fun _ _ _ h => h) (by rfl) (by (rintro w ⟨b2, b3, lk⟩; go_simp)) hS0 ?_
  simp only [List.setIfInBounds_toArray, List.set_cons_zero, List.set_cons_succ]
  refine takeC 3 (i := 12) (d := 16) (v := .int .i64 ((S : Int) - (0))) rfl rfl (by kernel_rfl) (by kernel_rfl) (by kernel_rfl) (by decide) (by kernel_rfl) (fun _ _ _ h => h) (by rfl) (by (rintro w ⟨b2, b3, lk⟩; go_simp)) hS0 ?_
  simp only [List.setIfInBounds_toArray, List.set_cons_zero, List.set_cons_succ]
  refine takeC 3 (i := 13) (d := 17) (v := .pointer (some ⟨b, 0, none⟩)) rfl rfl (by kernel_rfl) (by kernel_rfl) (by kernel_rfl) (by decide) (by kernel_rfl) (fun _ _ _ h => h) (by rfl) (by (rintro w ⟨b2, b3, lk⟩; go_simp)) hS0 ?_
  simp only [List.setIfInBounds_toArray, List.set_cons_zero, List.set_cons_succ]
  refine takeC 3 (i := 14) (d := 18) (v := .pointer (some ⟨b, 3, none⟩)) rfl rfl (by kernel_rfl) (by kernel_rfl) (by kernel_rfl) (by decide) (by kernel_rfl) (fun _ _ _ h => h) (by rfl) (by (rintro w ⟨b2, b3, lk⟩; go_simp)) hS0 ?_
  simp only [List.setIfInBounds_toArray, List.set_cons_zero, List.set_cons_succ]
  refine stepC (by kernel_rfl) rfl (fun K hK => ?_)
  rw [if_pos (by rfl)]
  go_simp
  refine hK.out _ _ ?_
  clear hK K
  refine doneC (by kernel_rfl) ?_ _
  clear hS0
  go_wp2_with (at_delete; refine wpList_delete_own _ rfl _ _ 58 3 rfl 66 key3 under58 msgE mb 1000 D rfl (HO.out _) _ _ rfl hkey ?_; intro w1 hown1 hturn1; have HF := Lib.hid (Forgot.mk HH.out id _ HSUB.out hown1 hturn1); clear hown1 hturn1)
  go_end0
  exact ⟨rfl, HF.out⟩

set_option maxRecDepth 100000 in
set_option maxHeartbeats 2000000 in
theorem forget_some (b mb : Nat) (most room : Int) (D : DataW Unit) (loc : Int → Nat × Nat) (l : List Op) (id : Int) (F : Nat → Prop) (w : World) (h : FJ w F b mb most room D loc l) (ok : OpsOk most l) (hm : limB most room = true) (hid : numB id = true) (i : Nat) (hn : idxO l id = some i) :
    Calls Try.prog 29 #[.pointer (some ⟨b, 0, none⟩), .int .i64 id] w fun e w' => e = .returned (.tuple #[]) ∧ Forgot w F b mb most room D loc l id w' := by
  obtain ⟨hl, hbs⟩ := h.bound ok hm
  have HH := Lib.hid h
  have hkey := keyOf_num hid
  obtain ⟨hi, hie, _⟩ := idxO_lt hn
  have hd : dropO l id = l.eraseIdx i := by unfold dropO; rw [hn]
  have hlk : (Instr.lookup 58 (.map (some mb)) (.int .i64 id) false).run Try.prog w.drew = .ok (.agg #[.slice (some ⟨(loc id).1, 0, none⟩) l[i].body.size (loc id).2, .int .i64 l[i].pieces]) w.drew := by
    rw [(h.below (show Below w.heap.size w w.drew from below_drewN' w 1)).look1 hid]
    unfold msgAt
    rw [hn]
    simp only [getD_at hi]
    rfl
  have hsub : ((bytesO l : Int) - ((l[i].body.size : Int))) = (bytesO (dropO l id) : Int) := by have := bytesO_erase hi; rw [hd]; omega
  have hzz := ok.body l[i] (List.getElem_mem hi)
  obtain ⟨g, hg⟩ : ∃ g, (loc id).1 = g := ⟨_, rfl⟩
  obtain ⟨cp, hcp⟩ : ∃ cp, (loc id).2 = cp := ⟨_, rfl⟩
  obtain ⟨n, hnn⟩ : ∃ n, l[i].body.size = n := ⟨_, rfl⟩
  obtain ⟨pc, hpc⟩ : ∃ pc, l[i].pieces = pc := ⟨_, rfl⟩
  rw [hg, hcp, hnn, hpc] at hlk
  rw [hnn] at hsub hzz
  clear hg hcp hnn hpc
  obtain ⟨S, hS⟩ : ∃ S, bytesO l = S := ⟨_, rfl⟩
  have hblk := h.blk
  rw [hS] at hblk hsub hbs
  have hwr : IntKind.i64.wrap ((S : Int) - ((n : Int))) = (S : Int) - ((n : Int)) := IntWalk.i64_in _ (by omega)
  have hS0 : FgS w.drew b mb id S (.agg #[.slice (some ⟨g, 0, none⟩) n cp, .int .i64 pc]) := ⟨cells_at hblk 2, cells_at hblk 3, hlk⟩
  have HSUB := Lib.hid hsub
  have hfl := field66
  have hwr2 : IntKind.i64.wrap (S : Int) = (S : Int) := IntWalk.i64_in _ (by omega)
  have rf : w.frozen? ⟨b, 3, none⟩ = false := by simp [World.frozen?, hblk, joinerO]
  have b2 : w.cell? ⟨b, 2, none⟩ = some (.map (some mb)) := cells_at hblk 2
  have b3 : w.cell? ⟨b, 3, none⟩ = some (.int .i64 S) := cells_at hblk 3
  have HO : Hid (∀ v, (w.setCell ⟨b, 3, none⟩ v).drew.ownsMap Try.prog 3 msgE mb 1000 D) := Lib.hid fun v => (h.own.setCell (a := ⟨b, 3, none⟩) (fun e => h.ne e.symm) v)
  clear h hblk hlk hl hbs hS hsub ok hm hd
  go_enter Try.func29, Try.ntmps29
  go_wp2_with fail
  refine wp_region_C (S := fun W => FgS W b mb id S (.agg #[.slice (some ⟨g, 0, none⟩) n cp, .int .i64 pc])) (c := 15) (by kernel_rfl) ?_
  refine takeC 3 (i := 0) (d := 4) (v := .pointer (some ⟨b, 0, none⟩)) rfl rfl (by kernel_rfl) (by kernel_rfl) (by kernel_rfl) (by decide) (by kernel_rfl) (fun _ _ _ h => h) (by rfl) (by (rintro w ⟨b2, b3, lk⟩; go_simp)) hS0 ?_
  simp only [List.setIfInBounds_toArray, List.set_cons_zero, List.set_cons_succ]
  refine takeC 3 (i := 1) (d := 5) (v := .pointer (some ⟨b, 0, none⟩)) rfl rfl (by kernel_rfl) (by kernel_rfl) (by kernel_rfl) (by decide) (by kernel_rfl) (fun _ _ _ h => h) (by rfl) (by (rintro w ⟨b2, b3, lk⟩; go_simp)) hS0 ?_
  simp only [List.setIfInBounds_toArray, List.set_cons_zero, List.set_cons_succ]
  refine takeC 3 (i := 2) (d := 6) (v := .pointer (some ⟨b, 3, none⟩)) rfl rfl (by kernel_rfl) (by kernel_rfl) (by kernel_rfl) (by decide) (by kernel_rfl) (fun _ _ _ h => h) (by rfl) (by (rintro w ⟨b2, b3, lk⟩; go_simp)) hS0 ?_
  simp only [List.setIfInBounds_toArray, List.set_cons_zero, List.set_cons_succ]
  refine takeC 3 (i := 3) (d := 7) (v := .int .i64 S) rfl rfl (by kernel_rfl) (by kernel_rfl) (by kernel_rfl) (by decide) (by kernel_rfl) (fun _ _ _ h => h) (by rfl) (by (rintro w ⟨b2, b3, lk⟩; go_simp)) hS0 ?_
  simp only [List.setIfInBounds_toArray, List.set_cons_zero, List.set_cons_succ]
  refine takeC 3 (i := 4) (d := 8) (v := .pointer (some ⟨b, 0, none⟩)) rfl rfl (by kernel_rfl) (by kernel_rfl) (by kernel_rfl) (by decide) (by kernel_rfl) (fun _ _ _ h => h) (by rfl) (by (rintro w ⟨b2, b3, lk⟩; go_simp)) hS0 ?_
  simp only [List.setIfInBounds_toArray, List.set_cons_zero, List.set_cons_succ]
  refine takeC 3 (i := 5) (d := 9) (v := .pointer (some ⟨b, 0, none⟩)) rfl rfl (by kernel_rfl) (by kernel_rfl) (by kernel_rfl) (by decide) (by kernel_rfl) (fun _ _ _ h => h) (by rfl) (by (rintro w ⟨b2, b3, lk⟩; go_simp)) hS0 ?_
  simp only [List.setIfInBounds_toArray, List.set_cons_zero, List.set_cons_succ]
  refine takeC 3 (i := 6) (d := 10) (v := .pointer (some ⟨b, 2, none⟩)) rfl rfl (by kernel_rfl) (by kernel_rfl) (by kernel_rfl) (by decide) (by kernel_rfl) (fun _ _ _ h => h) (by rfl) (by (rintro w ⟨b2, b3, lk⟩; go_simp)) hS0 ?_
  simp only [List.setIfInBounds_toArray, List.set_cons_zero, List.set_cons_succ]
  refine takeC 3 (i := 7) (d := 11) (v := .map (some mb)) rfl rfl (by kernel_rfl) (by kernel_rfl) (by kernel_rfl) (by decide) (by kernel_rfl) (fun _ _ _ h => h) (by rfl) (by (rintro w ⟨b2, b3, lk⟩; go_simp)) hS0 ?_
  simp only [List.setIfInBounds_toArray, List.set_cons_zero, List.set_cons_succ]
  refine takeC 3 (i := 8) (d := 12) (v := .int .i64 id) rfl rfl (by kernel_rfl) (by kernel_rfl) (by kernel_rfl) (by decide) (by kernel_rfl) (fun _ _ _ h => h) (by rfl) (by (rintro w ⟨b2, b3, lk⟩; go_simp)) hS0 ?_
  simp only [List.setIfInBounds_toArray, List.set_cons_zero, List.set_cons_succ]
  refine takeC 3 (i := 9) (d := 13) (v := .agg #[.slice (some ⟨g, 0, none⟩) n cp, .int .i64 pc]) rfl rfl (by kernel_rfl) (by kernel_rfl) (by kernel_rfl) (by decide) (by kernel_rfl) (fun _ _ _ h => h) (by rfl) (by (rintro w ⟨b2, b3, lk⟩; go_simp)) hS0 ?_
  simp only [List.setIfInBounds_toArray, List.set_cons_zero, List.set_cons_succ]
  refine takeC 3 (i := 10) (d := 14) (v := .slice (some ⟨g, 0, none⟩) n cp) rfl rfl (by kernel_rfl) (by kernel_rfl) (by kernel_rfl) (by decide) (by kernel_rfl) (fun _ _ _ h => h) (by rfl) (by (rintro w ⟨b2, b3, lk⟩; go_simp)) hS0 ?_
  simp only [List.setIfInBounds_toArray, List.set_cons_zero, List.set_cons_succ]
  refine takeC 3 (i := 11) (d := 15) (v := .int .i64 ((n : Int))) rfl rfl (by kernel_rfl) (by kernel_rfl) (by kernel_rfl) (by decide) (by kernel_rfl) (fun _ _ _ h => h) (by rfl) (by (rintro w ⟨b2, b3, lk⟩; go_simp)) hS0 ?_
  simp only [List.setIfInBounds_toArray, List.set_cons_zero, List.set_cons_succ]
  refine takeC 3 (i := 12) (d := 16) (v := .int .i64 ((S : Int) - ((n : Int)))) rfl rfl (by kernel_rfl) (by kernel_rfl) (by kernel_rfl) (by decide) (by kernel_rfl) (fun _ _ _ h => h) (by rfl) (by (rintro w ⟨b2, b3, lk⟩; go_simp)) hS0 ?_
  simp only [List.setIfInBounds_toArray, List.set_cons_zero, List.set_cons_succ]
  refine takeC 3 (i := 13) (d := 17) (v := .pointer (some ⟨b, 0, none⟩)) rfl rfl (by kernel_rfl) (by kernel_rfl) (by kernel_rfl) (by decide) (by kernel_rfl) (fun _ _ _ h => h) (by rfl) (by (rintro w ⟨b2, b3, lk⟩; go_simp)) hS0 ?_
  simp only [List.setIfInBounds_toArray, List.set_cons_zero, List.set_cons_succ]
  refine takeC 3 (i := 14) (d := 18) (v := .pointer (some ⟨b, 3, none⟩)) rfl rfl (by kernel_rfl) (by kernel_rfl) (by kernel_rfl) (by decide) (by kernel_rfl) (fun _ _ _ h => h) (by rfl) (by (rintro w ⟨b2, b3, lk⟩; go_simp)) hS0 ?_
  simp only [List.setIfInBounds_toArray, List.set_cons_zero, List.set_cons_succ]
  refine stepC (by kernel_rfl) rfl (fun K hK => ?_)
  rw [if_pos (by rfl)]
  go_simp
  refine hK.out _ _ ?_
  clear hK K
  refine doneC (by kernel_rfl) ?_ _
  clear hS0
  go_wp2_with (at_delete; refine wpList_delete_own _ rfl _ _ 58 3 rfl 66 key3 under58 msgE mb 1000 D rfl (HO.out _) _ _ rfl hkey ?_; intro w1 hown1 hturn1; have HF := Lib.hid (Forgot.mk HH.out id _ HSUB.out hown1 hturn1); clear hown1 hturn1)
  go_end0
  exact ⟨rfl, HF.out⟩

theorem forget_full (b mb : Nat) (most room : Int) (D : DataW Unit) (loc : Int → Nat × Nat) (l : List Op) (id : Int) (F : Nat → Prop) (w : World) (h : FJ w F b mb most room D loc l) (ok : OpsOk most l) (hm : limB most room = true) (hid : numB id = true) :
    Calls Try.prog 29 #[.pointer (some ⟨b, 0, none⟩), .int .i64 id] w fun e w' => e = .returned (.tuple #[]) ∧ Forgot w F b mb most room D loc l id w' := by
  cases hn : idxO l id with
  | none => exact forget_none b mb most room D loc l id F w h ok hm hid hn
  | some i => exact forget_some b mb most room D loc l id F w h ok hm hid i hn

theorem Forgot.step {w w' : World} {F : Nat → Prop} {b mb : Nat} {most room : Int} {D : DataW Unit} {loc : Int → Nat × Nat} {l : List Op} {id : Int} (h : Forgot w F b mb most room D loc l id w') : FStep w F b most room (dropO l id) w' :=
  ⟨F, mb, _, loc, h.1, fun _ g => .inl g, h.2.os, h.2.tape, h.2.output, h.2.size, fun k hk hn => h.2.block k hk fun g => hn (by rcases g with rfl | rfl; exact h.1.fb; exact h.1.fm)⟩

theorem forget_any (b mb : Nat) (most room : Int) (D : DataW Unit) (loc : Int → Nat × Nat) (l : List Op) (id : Int) (F : Nat → Prop) (w : World) (h : FJ w F b mb most room D loc l) (ok : OpsOk most l) (hm : limB most room = true) (hid : numB id = true) :
    Calls Try.prog 29 #[.pointer (some ⟨b, 0, none⟩), .int .i64 id] w fun e w' => e = .returned (.tuple #[]) ∧ FStep w F b most room (dropO l id) w' :=
  (forget_full b mb most room D loc l id F w h ok hm hid).mono fun _ _ hp => ⟨hp.1, hp.2.step⟩

end Go.Proofs.Yteblbpdpfegooaa
