/- Rows of numbers; sort.Ints; the reference's Open and Clear; SameInts of equal rows. -/
import Derived.Test.YteblbpdpfegooaaJc
import Derived.Test.YteblbpdpfegooaaC
import Derived.Test.YteblbpdpfegooaaSrt
namespace Go.Proofs.Yteblbpdpfegooaa
open Go.RowKit Go.Sort Go.BigFrame

/-- A row of numbers that is newer than w. -/
def IntNew (w W : World) (ao : Option Addr) (l : List Int) : Prop := l = [] ∨ ∃ b, ao = some ⟨b, 0, none⟩ ∧ w.heap.size ≤ b ∧ b < W.heap.size ∧ IntsAt W b 0 l

theorem IntNew.row {w W : World} {ao : Option Addr} {l : List Int} (h : IntNew w W ao l) : IntRow W ao l := by
  rcases h with h | ⟨b, h0, _, h1, h2⟩
  · exact .inl h
  · exact .inr ⟨b, 0, h0, h1, h2⟩

theorem IntNew.kept {w W W' : World} {F : Nat → Prop} {ao : Option Addr} {l : List Int} (h : IntNew w W ao l) (hb : But F W W') (hF : ∀ k, F k → k < w.heap.size) : IntNew w W' ao l := by
  rcases h with h | ⟨b, h0, h1, h2, h3⟩
  · exact .inl h
  · refine .inr ⟨b, h0, h1, Nat.lt_of_lt_of_le h2 hb.size, fun i hi => ?_⟩
    exact (World.cell?_of_block (hb.block b h2 fun g => by have := hF _ g; omega)).trans (h3 i hi)

theorem IntNew.below {w W W' : World} {ao : Option Addr} {l : List Int} (h : IntNew w W ao l) (hb : Below W.heap.size W W') : IntNew w W' ao l :=
  h.kept (F := fun _ => False) (But.of_below hb) fun _ g => g.elim

theorem IntNew.of_own {w W : World} {v : Value} {l : List Int} (h : W.ownsRow w.heap.size 3 1 v l.length (l.map encZ)) : ∃ ao cap, v = .slice ao l.length cap ∧ IntNew w W ao l := by
  rcases h.2 with ⟨hv, h0⟩ | ⟨g, cap, cur, hv, hb, hg, _⟩
  · exact ⟨none, 0, by rw [hv, h0], .inl (List.eq_nil_of_length_eq_zero h0)⟩
  · refine ⟨_, cap, hv, .inr ⟨g, rfl, hb, (Array.getElem?_eq_some_iff.1 hg).1, fun i hi => ?_⟩⟩
    have hc := (hv ▸ h).cells (g := g) rfl i (.int .i64 l[i]) (by rw [List.getElem?_map, List.getElem?_eq_getElem hi]; rfl)
    rw [add_none] at hc
    exact hc

/-- What a call returns that returns a new row of numbers. -/
def IntsP (w : World) (l : List Int) (e : Ending) (w' : World) : Prop := ∃ ao cap, e = .returned (.slice ao l.length cap) ∧ IntNew w w' ao l ∧ Below w.heap.size w w'

def sortI (l : List Int) : List Int := l.mergeSort leI

theorem sortI_len (l : List Int) : (sortI l).length = l.length := List.length_mergeSort ..

theorem ints_sort (base : Nat) (wr : World) (v : Value) (ss : List Int) (h : wr.ownsRow base 3 1 v ss.length (ss.map encZ)) (hl : ss.length ≤ 1000) :
    Calls Try.prog 36 #[v] wr fun e w' => e = .returned (.tuple #[]) ∧ w'.ownsRow base 3 1 v (sortI ss).length ((sortI ss).map encZ) ∧ wr.grownBy w' v.ownBlock := by
  rcases h.2 with ⟨rfl, hz⟩ | ⟨gb, cap, cur, rfl, hbase, hgb, r1, r2, r3, r4⟩
  · have hss : ss = [] := List.eq_nil_of_length_eq_zero hz
    subst hss
    refine (Any.sort_Ints_none (ρ := Try.intsL_ren) Try.intsL none 0 wr).mono ?_
    rintro e w' ⟨rfl, rfl⟩
    exact ⟨rfl, by simpa [sortI] using h, World.grownBy.refl _ _⟩
  · have hH : Holds encZ wr gb 0 ss.toArray := holds_of_block_i hgb (by simpa using r4)
    have hgl : gb < wr.heap.size := (Array.getElem?_eq_some_iff.1 hgb).1
    refine (Any.sort_Ints (ρ := Try.intsL_ren) Try.intsL gb 0 cap ss wr hH hgl (by omega)).mono ?_
    rintro e w' ⟨rfl, n, os, rfl⟩
    refine ⟨rfl, ?_, grownBy_sorted_i _⟩
    have := ownsRow_sorted_i (w := wr) (base := base) (n := n) (os := os) (ss := ss) (ts := ss.mergeSort leI) (by simp) hbase hgb r1 r2 r3
    rw [sortI_len]
    exact this

theorem info3i : (Try.prog.info? 3).map (fun i => (i.zero, i.size, i.bytes)) = some (some (.int .i64 0), 1, 8) := by kernel_rfl
theorem under41 : Try.prog.underlying 41 = some (.slice 3) := by kernel_rfl
theorem cell_int_new {W : World} {b : Nat} {x : Int} {t : TypeId} (h : W.heap[b]? = some (.cells #[.int .i64 x] t (0, 0))) : ∀ (j : Nat) (u : Value), [Value.int .i64 x][j]? = some u → W.cell? ((⟨b, 0, none⟩ : Addr).add j) = some u := by
  intro j u hu
  rw [add_none, cells_at h]
  rw [← hu]
  simp

def idsO (l : List Op) : List Int := l.map (·.id)
theorem idsO_take {l : List Op} {k : Nat} (h : k < l.length) : idsO (l.take (k + 1)) = idsO (l.take k) ++ [l[k].id] := by
  unfold idsO
  rw [List.take_succ_eq_append_getElem h, List.map_append]
  rfl

/-- Numbers gathered so far. -/
structure InI (w wr : World) (v : Value) (l : List Int) : Prop where
  own : wr.ownsRow w.heap.size 3 1 v l.length (l.map encZ)
  below : Below w.heap.size w wr

theorem InI.later {w wr wx : World} {v : Value} {l : List Int} (h : InI w wr v l) (hb : Below wr.heap.size wr wx) : InI w wx v l :=
  ⟨ownsRow_below h.own hb, h.below.trans (hb.mono h.below.size)⟩

theorem InI.grown {w wr wx : World} {v v' : Value} {l : List Int} {x : Int} (h : InI w wr v l) (hg : wr.grownBy wx v.ownBlock) (ho : wx.ownsRow w.heap.size 3 1 v' (l.length + 1) (l.map encZ ++ [.int .i64 x])) : InI w wx v' (l ++ [x]) :=
  ⟨by rw [List.length_append, List.length_singleton, List.map_append]; exact ho, below_grown h.below h.own hg (Nat.le_refl _)⟩

theorem InI.form {w wr : World} {v : Value} {l : List Int} (h : InI w wr v l) : ∃ a n c, v = .slice a n c := by
  rcases h.own.2 with ⟨hv, _⟩ | ⟨g, cap, cur, hv, _⟩
  · exact ⟨_, _, _, hv⟩
  · exact ⟨_, _, _, hv⟩

set_option maxRecDepth 100000 in
set_option maxHeartbeats 2000000 in
theorem ropen_any (b : Nat) (most room : Int) (sv : Value) (l : List Op) (F : Nat → Prop) (w : World) (h : RJ w F b most room sv l) (hl : l.length ≤ 100) :
    Calls Try.prog 20 #[.pointer (some ⟨b, 0, none⟩)] w (IntsP w (sortI (idsO l))) := by
  obtain ⟨⟨ao, cap, rfl⟩, hcells⟩ := h.form
  have HR := Lib.hid hcells
  have c2 : w.cell? ⟨b, 2, none⟩ = some (.slice ao l.length cap) := cells_at h.blk 2
  obtain ⟨i0, hi0, hz0, hz1, hz2⟩ := info_parts info3i
  clear h hcells
  go_enter Try.func20, Try.ntmps20
  go_wp2_with fail
  go_loopw [3, 11] (fun v i wr => ∃ k : Nat, i = .int .i64 k ∧ k ≤ l.length ∧ InI w wr v (idsO (l.take k))) (fun _ i _ => l.length - (intOf i).toNat)
  case atStart => exact ⟨0, rfl, Nat.zero_le _, by simpa [idsO] using World.ownsRow_nil _ _ _ _, Below.refl _ _⟩
  case round =>
    obtain ⟨k, rfl, hk, hrow⟩ := hrel
    have HW := Lib.hid hrow
    clear hrow c2
    by_cases hlt : k < l.length
    · obtain ⟨g, cap', hv, hg, c0, c1, c2⟩ := HR.out k hlt
      simp only [Value.slice.injEq] at hv
      obtain ⟨rfl, _, rfl⟩ := hv
      have d0 := (HW.out.below.cell (p := ⟨g, k * 3, none⟩) hg).trans c0
      have d1 := (HW.out.below.cell (p := ⟨g, k * 3 + 1, none⟩) hg).trans c1
      have d2 := (HW.out.below.cell (p := ⟨g, k * 3 + 2, none⟩) hg).trans c2
      clear c0 c1 c2
      have hst := idsO_take hlt
      obtain ⟨x, hx⟩ : ∃ x, l[k] = x := ⟨_, rfl⟩
      rw [hx] at d0 d1 d2 hst
      obtain ⟨id, pc, bd⟩ := x
      simp only at d0 d1 d2 hst
      have HST := Lib.hid hst
      have HLN : Hid ((idsO (l.take k)).length ≤ 100) := Lib.hid (by unfold idsO; rw [List.length_map, List.length_take]; omega)
      have HLT := Lib.hid hlt
      have hk1 : (k : Int) < (l.length : Int) := by omega
      have hk2 : (k : Int) + 1 ≤ 1000 := by omega
      have hk0 : (0 : Int) ≤ (k : Int) := by omega
      have HA : ∀ cs, Hid (Below wr.heap.size wr (wr.alloc cs)) := fun cs => Lib.hid ((Below.refl _ _).alloc (Nat.le_refl _) _)
      obtain ⟨m, hm⟩ : ∃ m, idsO (l.take k) = m := ⟨_, rfl⟩
      rw [hm] at HW HST HLN
      clear hx hg hst hm
      go_wp2_with (at_builtin; refine wpList_append_own_at _ rfl _ _ 41 rfl w.heap.size 3 i0 (.int .i64 0) 1 8 under41 hi0 hz0 hz1 hz2 rfl (by decide) _ _ _ rfl ((HW.out.later (HA _).out).own.alloc _) ⟨wr.heap.size + 1, 0, none⟩ 1 1 [.int .i64 id] rfl (by simp) (cell_int_new (heap_alloc_two _ _ _)) (by simp [Value.oneCell']) (by have := HLN.out; unfold maxLen; omega) (by have := HLN.out; omega) (by have := HW.out.below.size; simp; omega) ?_; intro v' w3 hown' hgrow _ _; have HT3 := Lib.hid (InI.grown (x := id) ((HW.out.later (HA _).out).later ((Below.refl _ _).alloc (Nat.le_refl _) _)) hgrow hown'); clear hown' hgrow)
      exact ⟨⟨k + 1, by go_num, HLT.out, by rw [HST.out]; exact HT3.out⟩, by simp [intOf]; have := HLT.out; omega⟩
    · obtain rfl : k = l.length := by omega
      rw [List.take_length] at HW
      have HLN : Hid ((idsO l).length ≤ 1000) := Lib.hid (by unfold idsO; rw [List.length_map]; omega)
      have SI := Lib.hid (ints_sort _ wr _ _ HW.out.own HLN.out)
      go_wp2_with (go_at_call 36; refine SI.out.mono ?_; rintro e w3 ⟨rfl, hown, hgrow⟩; have HB3 := Lib.hid (below_grown HW.out.below HW.out.own hgrow (Nat.le_refl _)); have HO3 := Lib.hid hown; clear hown hgrow)
      obtain ⟨ao3, cap3, hv3, hin⟩ := IntNew.of_own HO3.out
      go_ret
      exact ⟨ao3, cap3, by subst hv3; rfl, hin, HB3.out⟩

/-- What Clear returns. -/
def RClearP (w : World) (F : Nat → Prop) (b : Nat) (most room : Int) (l : List Int) (e : Ending) (w' : World) : Prop :=
  ∃ ao cap, e = .returned (.slice ao l.length cap) ∧ IntNew w w' ao l ∧ RStep w F b most room [] w'

set_option maxHeartbeats 2000000 in
theorem rclear_any (b : Nat) (most room : Int) (sv : Value) (l : List Op) (F : Nat → Prop) (w : World) (h : RJ w F b most room sv l) (hl : l.length ≤ 100) :
    Calls Try.prog 16 #[.pointer (some ⟨b, 0, none⟩)] w (RClearP w F b most room (sortI (idsO l))) := by
  have OP := Lib.hid (ropen_any b most room sv l F w h hl)
  have HH := Lib.hid h
  have hbw : Hid (b < w.heap.size) := Lib.hid (h.few _ h.fb)
  clear h
  go_enter Try.func16, Try.ntmps16
  go_wp2_with (go_at_call 20; refine OP.out.mono ?_; rintro e w1 ⟨ao, cap, rfl, hin, hb1⟩; have hj := HH.out.below hb1; have d0 := cells_at hj.blk 0; have d1 := cells_at hj.blk 1; have d2 := cells_at hj.blk 2; have rf : w1.frozen? ⟨b, 2, none⟩ = false := (by simp [World.frozen?, hj.blk]); have HI := Lib.hid hin; have HB := Lib.hid hb1; clear hin hb1 hj)
  go_ret
  have hm : RmI w w1 (.slice none 0 0) [] := ⟨by simpa [opCells] using World.ownsRow_nil _ _ _ _, HB.out⟩
  refine ⟨ao, cap, rfl, ?_, RStep.put HH.out hm⟩
  exact HI.out.kept (F := fun k => k = b) (But.setCell (F := fun k => k = b) w1 ⟨b, 2, none⟩ _ rfl) fun k hk => by have := hbw.out; omega

set_option maxRecDepth 100000 in
set_option maxHeartbeats 2000000 in
theorem sameI_eq (ao1 ao2 : Option Addr) (cap1 cap2 : Nat) (l : List Int) (w : World) (h1 : IntRow w ao1 l) (h2 : IntRow w ao2 l) (hl : l.length ≤ 100000) :
    Calls Try.prog 14 #[.slice ao1 l.length cap1, .slice ao2 l.length cap2] w fun e w' => e = .returned (.bool true) ∧ Below w.heap.size w w' := by
  have H1 := Lib.hid h1
  have H2 := Lib.hid h2
  clear h1 h2
  go_enter Try.func14, Try.ntmps14
  go_wp2_with fail
  go_loopw [13] (fun i wr => ∃ k : Nat, i = .int .i64 k ∧ k ≤ l.length ∧ Below w.heap.size w wr) (fun i _ => l.length - (intOf i).toNat)
  case atStart => exact ⟨0, rfl, Nat.zero_le _, Below.refl _ _⟩
  case round =>
    obtain ⟨k, rfl, hk, hbel⟩ := hrel
    have HB := Lib.hid hbel
    clear hbel
    by_cases hlt : k < l.length
    · rcases H1.out with h0 | ⟨b, off, rfl, hb, hp⟩
      · subst h0; exact absurd hlt (by simp)
      rcases H2.out with h0 | ⟨b', off', rfl, hb', hp'⟩
      · subst h0; exact absurd hlt (by simp)
      have c0 := (hp.below HB.out hb) k hlt
      have d0 := (hp'.below HB.out hb') k hlt
      obtain ⟨p, hpp⟩ : ∃ p, l[k] = p := ⟨_, rfl⟩
      rw [hpp] at c0 d0
      have HLT := Lib.hid hlt
      have hk1 : (k : Int) < (l.length : Int) := by omega
      have hk2 : (k : Int) + 1 ≤ 1000000 := by omega
      have hk0 : (0 : Int) ≤ (k : Int) := by omega
      clear hpp hp hp'
      go_wp2_with fail
      go_quiet (fail)
      go_wp2_with fail
      exact ⟨⟨k + 1, by go_num, HLT.out, HB.out.trans ((below_drewN' _ _).mono HB.out.size)⟩, by simp [intOf]; have := HLT.out; omega⟩
    · obtain rfl : k = l.length := by omega
      go_wp2_with fail
      go_ret
      exact ⟨rfl, HB.out⟩

end Go.Proofs.Yteblbpdpfegooaa
