/- frag's Open and Clear. -/
import Derived.Test.YteblbpdpfegooaaJm
namespace Go.Proofs.Yteblbpdpfegooaa
open Go.RowKit Go.Sort Go.BigFrame Go.Maps

/-- slices.Sort's two contracts, at the fence that asks nothing. -/
theorem sorts_wide (m : Nat) : AnyZI.SortsIn Try.prog Try.sortedL_ren Fence.wide m :=
  ⟨fun blk off cap ss W hH hblk hsz => callsIn_wide.2 (AnyM.slices_Sort_int Try.sortL blk off cap ss W hH hblk hsz),
   fun p cap W => callsIn_wide.2 (AnyM.slices_Sort_int_none Try.sortL p cap W)⟩

set_option maxHeartbeats 1000000 in
theorem fopen_any (b mb : Nat) (most room : Int) (D : DataW Unit) (loc : Int → Nat × Nat) (l : List Op) (F : Nat → Prop) (w : World) (h : FJ w F b mb most room D loc l) (hl : l.length ≤ 100) :
    Calls Try.prog 19 #[.pointer (some ⟨b, 0, none⟩)] w (IntsP w (sortI (idsO l))) := by
  refine (callsIn_wide (n := 6)).1 ?_
  have hown := h.own
  have hbl := h.few _ h.fm
  have hsz := h.size
  have hpm := h.perm
  have b2 : w.cell? ⟨b, 2, none⟩ = some (.map (some mb)) := cells_at h.blk 2
  have hseq : SeqGives Fence.wide 2 Try.prog 51 #[.pointer (some ⟨w.heap.size, 0, none⟩)] encZ (fun ss => ss.Perm (intKeys D)) (Maps.size D) (w.alloc (.cells #[.map (some mb)] 58)) :=
    AnyZI.keys_gives (ρ := Try.keysL_ren) { Try.keysL with } Fence.wide _ trivial rfl (by omega) w.heap.size mb 1000 D _ (by simp) (by simp) (by
      exact ownsMap_keep hown (Below.heap_alloc _ _ _ hbl))
  have cK : ∀ m W, CallsIn Fence.wide 5 Try.prog 35 #[.map m] W fun e w' => e = .returned (.func (.func 51) #[] #[.pointer (some ⟨W.heap.size, 0, none⟩)]) ∧ w' = W.alloc (.cells #[.map m] 58) := fun m W => AnyZI.keys_in Try.keysL Fence.wide 5 trivial rfl m W
  have cS := AnyZI.sorted_in Try.sortedL Fence.wide 5 trivial trivial trivial trivial rfl (by omega) (sorts_wide _) (enters_of Try.func50 (by kernel_rfl) rfl) 51 #[.pointer (some ⟨w.heap.size, 0, none⟩)] trivial (enters_of Try.func51 (by kernel_rfl) rfl) _ _ (by unfold maxLen; omega) (by omega) _ hseq
  change CallsIn _ _ Try.prog 34 _ _ _ at cS
  have hfK : Fence.wide.fn 35 := trivial
  have hfS : Fence.wide.fn 34 := trivial
  have HP := Lib.hid hpm
  clear h hown hbl hsz hpm hseq
  refine callsIn_of_wp Try.func19 rfl trivial ?_ rfl
  simp only [Try.ntmps19, List.size_toArray, List.length_cons, List.length_nil, Nat.reduceAdd, Nat.reduceSub, Array.replicate_succ, Array.replicate_zero, List.push_toArray, List.append_toArray, List.nil_append, List.cons_append]
  gi_wp2_with (first
    | (gi_at_call 35; refine (cK _ _).mono ?_; rintro e w' ⟨rfl, rfl⟩)
    | (gi_at_call 34; refine cS.mono ?_; rintro e w' ⟨v, ss, rfl, hS, hrow, hnil, hb⟩))
  go_ret
  have he : ss.mergeSort leI = sortI (idsO l) := mergeSort_of_perm_i (hS.trans HP.out.symm)
  have hlen : ss.length = (sortI (idsO l)).length := by rw [← he, List.length_mergeSort]
  have hrow2 : w'.ownsRow w.heap.size 3 1 v ss.length ((ss.mergeSort leI).map encZ) := ownsRow_base_a hrow (by simp)
  have hrow3 : w'.ownsRow w.heap.size 3 1 v (sortI (idsO l)).length ((sortI (idsO l)).map encZ) := by
    rw [hlen, he] at hrow2
    exact hrow2
  obtain ⟨ao, cap, rfl, hin⟩ := IntNew.of_own hrow3
  exact ⟨ao, cap, rfl, hin, ((Below.refl _ w).alloc (Nat.le_refl _) _).trans (hb.mono (by simp))⟩

/-- Some are dropped. -/
def dropsO (l : List Op) (ids : List Int) : List Op := ids.foldl dropO l

theorem dropsO_snoc (l : List Op) (ids : List Int) (i : Int) : dropsO l (ids ++ [i]) = dropO (dropsO l ids) i := by simp [dropsO, List.foldl_append]

theorem dropsO_spec : ∀ (ids : List Int) (l : List Op), (idsO l).Nodup → (idsO (dropsO l ids)).Nodup ∧ ∀ y, y ∈ dropsO l ids ↔ y ∈ l ∧ y.id ∉ ids
  | [], l, h => ⟨h, fun y => by simp [dropsO]⟩
  | i :: r, l, h => by
    obtain ⟨h1, h2⟩ := dropsO_spec r (dropO l i) (ids_dropO h i)
    refine ⟨h1, fun y => ?_⟩
    show y ∈ dropsO (dropO l i) r ↔ _
    rw [h2, mem_dropO h, List.mem_cons, and_assoc]
    exact and_congr_right fun _ => ⟨fun g e => e.elim g.1 g.2, fun g => ⟨fun e => g (.inl e), fun e => g (.inr e)⟩⟩

theorem dropsO_all {l : List Op} (h : (idsO l).Nodup) : dropsO l (sortI (idsO l)) = [] := by
  refine List.eq_nil_iff_forall_not_mem.2 fun y hy => ?_
  obtain ⟨h1, h2⟩ := ((dropsO_spec _ l h).2 y).1 hy
  refine h2 ?_
  unfold sortI
  rw [List.mem_mergeSort]
  exact mem_idsO.2 ⟨y, h1, rfl⟩

theorem OpsOk.drop {most : Int} {l : List Op} (h : OpsOk most l) (id : Int) : OpsOk most (dropO l id) := by
  unfold dropO
  split
  · exact h
  · exact h.erase _

theorem OpsOk.drops {most : Int} : ∀ (ids : List Int) {l : List Op}, OpsOk most l → OpsOk most (dropsO l ids)
  | [], _, h => h
  | i :: r, _, h => OpsOk.drops r (h.drop i)

/-- Between two messages that Clear forgets. -/
structure ClI (w wr : World) (F : Nat → Prop) (b : Nat) (most room : Int) (l : List Op) (ao : Option Addr) (ids : List Int) : Prop where
  out : ∃ F' mb D loc, FJ wr F' b mb most room D loc l ∧ (∀ k, F' k → F k ∨ w.heap.size ≤ k) ∧ (∀ k g, F' k → ids ≠ [] → ao = some g → ¬ k = g.block) ∧ But F w wr
  row : IntNew w wr ao ids

/-- What Clear returns. -/
def FClearP (w : World) (F : Nat → Prop) (b : Nat) (most room : Int) (l : List Int) (e : Ending) (w' : World) : Prop :=
  ∃ ao cap, e = .returned (.slice ao l.length cap) ∧ IntNew w w' ao l ∧ FStep w F b most room [] w'

theorem ClI.next {w wr wx : World} {F : Nat → Prop} {b : Nat} {most room : Int} {m : List Op} {ao : Option Addr} {ids : List Int} {F' : Nat → Prop} (hw : w.heap.size ≤ wr.heap.size) (hF1 : ∀ k, F' k → F k ∨ w.heap.size ≤ k) (hF2 : ∀ k g, F' k → ids ≠ [] → ao = some g → ¬ k = g.block) (hb : But F w wr)
    (hr : IntNew w wr ao ids) (hs : FStep wr F' b most room m wx) : ClI w wx F b most room m ao ids := by
  obtain ⟨F2, mb, D, loc, h1, h2, h3⟩ := hs
  constructor
  · refine ⟨F2, mb, D, loc, h1, fun k hk => ?_, fun k g hk hne hg e => ?_, hb.trans h3 hF1⟩
    · rcases h2 k hk with g | g
      · exact hF1 k g
      · right; omega
    · rcases h2 k hk with g' | g'
      · exact hF2 k g g' hne hg e
      · rcases hr with h9 | ⟨b', h9, _, h10, _⟩
        · exact hne h9
        · rw [hg] at h9
          have := congrArg Addr.block (Option.some.inj h9)
          simp only at this
          omega
  · by_cases hne : ids = []
    · exact .inl hne
    rcases hr with h9 | ⟨b', h9, h8, h10, h11⟩
    · exact .inl h9
    · refine .inr ⟨b', h9, h8, Nat.lt_of_lt_of_le h10 h3.size, fun i hi => ?_⟩
      exact (World.cell?_of_block (h3.block b' h10 fun g => hF2 _ _ g hne h9 rfl)).trans (h11 i hi)

set_option maxRecDepth 100000 in
set_option maxHeartbeats 2000000 in
theorem fclear_any (b mb : Nat) (most room : Int) (D : DataW Unit) (loc : Int → Nat × Nat) (l : List Op) (F : Nat → Prop) (w : World) (h : FJ w F b mb most room D loc l) (ok : OpsOk most l) (hm : limB most room = true) (hv : ∀ x ∈ l, numB x.id = true) :
    Calls Try.prog 15 #[.pointer (some ⟨b, 0, none⟩)] w (FClearP w F b most room (sortI (idsO l))) := by
  have hl := (h.bound ok hm).1
  have OP := Lib.hid (fopen_any b mb most room D loc l F w h hl)
  have HH := Lib.hid h
  have HALL := Lib.hid (dropsO_all h.nodup)
  have hlen : (sortI (idsO l)).length ≤ 100 := by rw [sortI_len]; unfold idsO; rw [List.length_map]; exact hl
  have hnum : ∀ i ∈ sortI (idsO l), numB i = true := fun i hi => by
    unfold sortI at hi
    rw [List.mem_mergeSort] at hi
    obtain ⟨x, hx, rfl⟩ := mem_idsO.1 hi
    exact hv x hx
  have HOK := Lib.hid fun ids => OpsOk.drops ids ok
  obtain ⟨ids, hids⟩ : ∃ ids, sortI (idsO l) = ids := ⟨_, rfl⟩
  rw [hids] at OP HALL hlen hnum ⊢
  have HN := Lib.hid hnum
  have FG := Lib.hid fun wx F' mb' D' loc' l' i (hx : FJ wx F' b mb' most room D' loc' l') (ok' : OpsOk most l') (hi : numB i = true) => forget_any b mb' most room D' loc' l' i F' wx hx ok' hm hi
  clear h ok hm hv hl hids hnum
  go_enter Try.func15, Try.ntmps15
  go_wp2_with (go_at_call 19; refine OP.out.mono ?_; rintro e w1 ⟨ao, cap, rfl, hin, hb1⟩; have HI := Lib.hid hin; have HB := Lib.hid hb1; clear hin hb1)
  go_loopw [10] (fun i wr => ∃ k : Nat, i = .int .i64 k ∧ k ≤ ids.length ∧ ClI w wr F b most room (dropsO l (ids.take k)) ao ids) (fun i _ => ids.length - (intOf i).toNat)
  case atStart =>
    refine ⟨0, rfl, Nat.zero_le _, ⟨F, mb, D, loc, HH.out.below HB.out, fun _ g => .inl g, fun k g hk hne hg e => ?_, But.of_below HB.out⟩, HI.out⟩
    rcases HI.out with h9 | ⟨b', h9, h10, _⟩
    · exact hne h9
    · rw [hg] at h9
      have h12 := congrArg Addr.block (Option.some.inj h9)
      have h13 := HH.out.few k hk
      simp only at h12
      omega
  case round =>
    obtain ⟨k, rfl, hk, hcl⟩ := hrel
    by_cases hlt : k < ids.length
    · obtain ⟨⟨F', mb', D', loc', hj, hF1, hF2, hbut⟩, hrow⟩ := hcl
      have hrow' := hrow
      rcases hrow with h0 | ⟨bb, rfl, h8, h9, hcell⟩
      · rw [h0] at hlt; exact absurd hlt (by simp)
      have c0 := hcell k hlt
      rw [Nat.zero_add] at c0
      have FK := Lib.hid (FG.out wr F' mb' D' loc' _ ids[k] hj (HOK.out _) (HN.out _ (List.getElem_mem hlt)))
      have HCN := Lib.hid fun wx (hs : FStep wr F' b most room _ wx) => ClI.next (m := dropO (dropsO l (ids.take k)) ids[k]) hbut.size hF1 hF2 hbut hrow' hs
      have HST : Hid (dropsO l (ids.take (k + 1)) = dropO (dropsO l (ids.take k)) ids[k]) := Lib.hid (by rw [List.take_succ_eq_append_getElem hlt, dropsO_snoc])
      obtain ⟨i, hi⟩ : ∃ i, ids[k] = i := ⟨_, rfl⟩
      rw [hi] at c0 FK HCN HST
      have HLT := Lib.hid hlt
      have hk1 : (k : Int) < (ids.length : Int) := by omega
      have hk2 : (k : Int) + 1 ≤ 1000 := by omega
      have hk0 : (0 : Int) ≤ (k : Int) := by omega
      clear hj hF1 hF2 hbut hrow' hcell hi
      go_wp2_with (go_at_call 29; refine FK.out.mono ?_; rintro e w2 ⟨rfl, hs⟩; have HC2 := Lib.hid (HCN.out _ hs); clear hs)
      exact ⟨⟨k + 1, by go_num, HLT.out, by rw [HST.out]; exact HC2.out⟩, by simp [intOf]; have := HLT.out; omega⟩
    · obtain rfl : k = ids.length := by omega
      rw [List.take_length, HALL.out] at hcl
      have HC := Lib.hid hcl
      clear hcl
      go_wp2_with fail
      go_ret
      obtain ⟨⟨F', mb', D', loc', hj, hF1, hF2, hbut⟩, hrow⟩ := HC.out
      exact ⟨ao, cap, rfl, hrow, F', mb', D', loc', hj, hF1, hbut⟩

end Go.Proofs.Yteblbpdpfegooaa
