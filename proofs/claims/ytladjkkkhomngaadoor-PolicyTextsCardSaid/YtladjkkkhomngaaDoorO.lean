/- The contract of the reference's part. -/
import Derived.Test.YtladjkkkhomngaaDoorN
namespace Go.Proofs.YtladjkkkhomngaaDoor
set_option maxRecDepth 8000
open Go.RowKit Go.Sort Go.BigFrame

/-- Is a kind between two? -/
def betw (x y k : Int) : Bool := decide (x ≤ k) && decide (k ≤ y)
/-- The policies between two kinds among the first n. -/
def partTo (x y : Int) (l : List PolD) (n : Nat) : List PolD := (l.take n).filter fun p => betw x y p.k
theorem partTo_len (x y : Int) (l : List PolD) (n : Nat) : (partTo x y l n).length ≤ n := by
  unfold partTo
  exact Nat.le_trans (List.length_filter_le _ _) (by rw [List.length_take]; omega)
theorem partTo_yes {x y : Int} {l : List PolD} {n : Nat} (h : n < l.length) (hp : betw x y l[n].k = true) : partTo x y l (n + 1) = partTo x y l n ++ [l[n]] := by
  unfold partTo
  rw [List.take_succ_eq_append_getElem h, List.filter_append]
  simp [hp]
theorem partTo_no {x y : Int} {l : List PolD} {n : Nat} (h : n < l.length) (hp : betw x y l[n].k = false) : partTo x y l (n + 1) = partTo x y l n := by
  unfold partTo
  rw [List.take_succ_eq_append_getElem h, List.filter_append]
  simp [hp]

/-- What a round of part knows. -/
structure PartI (x y : Int) (w wr : World) (l : List PolD) (k : Nat) (sv : Value) : Prop where
  own : wr.ownsRow w.heap.size 24 2 sv (partTo x y l k).length (polCells (partTo x y l k))
  below : Below w.heap.size w wr

theorem PartI.later {x y : Int} {w wr wx : World} {l : List PolD} {k : Nat} {sv : Value} (h : PartI x y w wr l k sv) (hb : Below wr.heap.size wr wx) : PartI x y w wx l k sv :=
  ⟨ownsRow_below h.own hb, h.below.trans (hb.mono h.below.size)⟩

theorem PartI.grown {x y : Int} {w wr wx : World} {l : List PolD} {k : Nat} {sv sv' : Value} {kk vv : Int} (h : PartI x y w wr l k sv) (hg : wr.grownBy wx sv.ownBlock) (ho : wx.ownsRow w.heap.size 24 2 sv' ((partTo x y l k).length + 1) (polCells (partTo x y l k) ++ [.int .i64 kk, .int .i64 vv]))
    (hk : k < l.length) (hkk : l[k].k = kk) (hvv : l[k].v = vv) (hp : betw x y kk = true) : PartI x y w wx l (k + 1) sv' := by
  subst hkk hvv
  refine ⟨?_, ?_⟩
  · rw [partTo_yes hk hp, polCells_snoc, List.length_append]
    exact ho
  · refine ⟨hg.os.trans h.below.os, hg.tape.trans h.below.tape, hg.output.trans h.below.output, Nat.le_trans h.below.size hg.size, fun j hj => (hg.block j (Nat.lt_of_lt_of_le hj h.below.size) fun e => ?_).trans (h.below.block j hj)⟩
    have := (h.own.lt j e.symm).1
    omega

set_option maxRecDepth 100000 in
set_option maxHeartbeats 1000000 in
theorem part_any (x y : Int) (ao : Option Addr) (cap : Nat) (l : List PolD) (w : World) (h : RowAt w ao l) (hl : l.length ≤ 1000000) :
    Calls Tryd.prog 50 #[.slice ao l.length cap, .int .i64 x, .int .i64 y] w fun e w' => ∃ sv, e = .returned sv ∧ PartI x y w w' l l.length sv := by
  have HR := Lib.hid h
  have HL := Lib.hid hl
  clear h hl
  obtain ⟨i0, hi, hz0, hz1, hz2⟩ := info_parts Tryd.info46
  go_enter Tryd.func50, Tryd.ntmps50
  go_wp2_with fail
  go_loopw [7, 12] (fun v i wr => ∃ k : Nat, i = .int .i64 k ∧ k ≤ l.length ∧ PartI x y w wr l k v) (fun _ i _ => l.length - (intOf i).toNat)
  case atStart => exact ⟨0, rfl, Nat.zero_le _, World.ownsRow_nil _ _ _ _, Below.refl _ _⟩
  case round =>
    obtain ⟨k, rfl, hk, hinv⟩ := hrel
    have HI := Lib.hid hinv
    clear hinv
    by_cases hlt : k < l.length
    · rcases HR.out with h0 | ⟨b, off, rfl, hb, hp⟩
      · subst h0; exact absurd hlt (by simp)
      obtain ⟨c0, c1⟩ := (hp.below HI.out.below hb) k hlt
      obtain ⟨kk, hkk⟩ : ∃ kk, l[k].k = kk := ⟨_, rfl⟩
      obtain ⟨vv, hvv⟩ : ∃ vv, l[k].v = vv := ⟨_, rfl⟩
      rw [hkk] at c0
      rw [hvv] at c1
      have HKK := Lib.hid hkk
      have HVV := Lib.hid hvv
      have hb1 : Below wr.heap.size wr (wr.alloc (polO kk vv)) := (Below.refl _ _).alloc (Nat.le_refl _) _
      have HI1 := Lib.hid (HI.out.later hb1)
      have hk1 : (k : Int) < (l.length : Int) := by omega
      have hk2 : (k : Int) + 1 ≤ 9223372036854775807 := by have := HL.out; omega
      have HK1 := Lib.hid hkk
      have n0 := polO_c0 kk vv wr
      have n1 := polO_c1 kk vv wr
      clear hkk hvv hp hb1
      cases e1 : decide (x ≤ kk)
      · have HRR : Hid (betw x y kk = false) := Lib.hid (by unfold betw; rw [e1]; rfl)
        go_wp2_with fail
        have HN : Hid (PartI x y w (wr.alloc (polO kk vv)) l (k + 1) _) := Lib.hid (⟨by rw [partTo_no hlt (by rw [HKK.out]; exact HRR.out)]; exact HI1.out.own, HI1.out.below⟩)
        exact ⟨⟨k + 1, by go_num, hlt, HN.out⟩, by simp [intOf]; omega⟩
      · cases e2 : decide (kk ≤ y)
        · have HRR : Hid (betw x y kk = false) := Lib.hid (by unfold betw; rw [e1, e2]; rfl)
          go_wp2_with fail
          have HN : Hid (PartI x y w (wr.alloc (polO kk vv)) l (k + 1) _) := Lib.hid (⟨by rw [partTo_no hlt (by rw [HKK.out]; exact HRR.out)]; exact HI1.out.own, HI1.out.below⟩)
          exact ⟨⟨k + 1, by go_num, hlt, HN.out⟩, by simp [intOf]; omega⟩
        · have HRR : Hid (betw x y kk = true) := Lib.hid (by unfold betw; rw [e1, e2]; rfl)
          have HLK : Hid ((partTo x y l k).length ≤ 1000000) := Lib.hid (by have := partTo_len x y l k; have := HL.out; omega)
          have HNW : Hid (((wr.alloc (polO kk vv)).alloc (polO kk vv)).heap[wr.heap.size + 1]? = some (polO kk vv)) := Lib.hid (by have := heap_alloc_new (wr.alloc (polO kk vv)) (polO kk vv); rw [World.size_alloc] at this; exact this)
          go_wp2_with (at_builtin; refine wpList_append_own_at _ rfl _ _ 22 rfl w.heap.size 24 i0 (.agg #[.int .i64 0, .int .i64 0]) 2 16 under22 hi hz0 hz1 hz2 rfl (by decide) _ _ _ rfl (HI1.out.own.alloc _) ⟨wr.heap.size + 1, 0, none⟩ 1 1 [.int .i64 kk, .int .i64 vv] rfl rfl (cell_pol_new HNW.out) (by simp [Value.oneCell']) (by have := HLK.out; unfold maxLen; omega) (by have := HLK.out; omega) (by have := HI1.out.below.size; simp at this ⊢; omega) ?_; intro v' w3 hown' hgrow _ _; have HI3 := Lib.hid (PartI.grown (HI1.out.later ((Below.refl _ _).alloc (Nat.le_refl _) _)) hgrow hown' hlt HKK.out HVV.out HRR.out); clear hown' hgrow)
          exact ⟨⟨k + 1, by go_num, hlt, HI3.out⟩, by simp [intOf]; omega⟩
    · obtain rfl : k = l.length := by omega
      go_wp2_with fail
      go_ret
      exact ⟨_, rfl, HI.out⟩

end Go.Proofs.YtladjkkkhomngaaDoor
