/- The walk of policy.kept where it is called with policy.isPlain. -/
import Derived.Test.YtladjkkkhomngaaDoorJ
namespace Go.Proofs.YtladjkkkhomngaaDoor
set_option maxRecDepth 8000
open Go.RowKit Go.Sort Go.BigFrame

theorem Tryd.info46 : (Tryd.prog.info? 24).map (fun i => (i.zero, i.size, i.bytes)) = some (some (.agg #[.int .i64 0, .int .i64 0]), 2, 16) := by kernel_rfl
theorem u22 : Tryd.prog.underlying 22 = some (.slice 24) := by kernel_rfl

theorem ownsRow_below {W W' : World} {base : Nat} {e : TypeId} {size : Nat} {v : Value} {n : Nat} {xs : List Value} (h : W.ownsRow base e size v n xs) (hb : Below W.heap.size W W') : W'.ownsRow base e size v n xs :=
  h.kept (belowGrown hb) (by cases hv : v.ownBlock with
    | none => exact .inl rfl
    | some g => exact .inr (by simp))

/-- What a round of kept knows. -/
structure KeptI (w wr : World) (l : List PolD) (k : Nat) (sv : Value) : Prop where
  own : wr.ownsRow w.heap.size 24 2 sv (keptTo l k).length (polCells (keptTo l k))
  below : Below w.heap.size w wr

theorem KeptI.later {w wr wx : World} {l : List PolD} {k : Nat} {sv : Value} (h : KeptI w wr l k sv) (hb : Below wr.heap.size wr wx) : KeptI w wx l k sv :=
  ⟨ownsRow_below h.own hb, h.below.trans (hb.mono h.below.size)⟩

theorem KeptI.grown {w wr wx : World} {l : List PolD} {k : Nat} {sv sv' : Value} {kk vv : Int} (h : KeptI w wr l k sv) (hg : wr.grownBy wx sv.ownBlock) (ho : wx.ownsRow w.heap.size 24 2 sv' ((keptTo l k).length + 1) (polCells (keptTo l k) ++ [.int .i64 kk, .int .i64 vv]))
    (hk : k < l.length) (hkk : l[k].k = kk) (hvv : l[k].v = vv) (hp : plainP kk vv = true) : KeptI w wx l (k + 1) sv' := by
  subst hkk hvv
  refine ⟨?_, ?_⟩
  · rw [keptTo_yes hk hp, polCells_snoc, List.length_append]
    exact ho
  · refine ⟨hg.os.trans h.below.os, hg.tape.trans h.below.tape, hg.output.trans h.below.output, Nat.le_trans h.below.size hg.size, fun j hj => (hg.block j (Nat.lt_of_lt_of_le hj h.below.size) fun e => ?_).trans (h.below.block j hj)⟩
    have := (h.own.lt j e.symm).1
    omega

set_option maxRecDepth 100000 in
set_option maxHeartbeats 1000000 in
theorem kept_any (ao : Option Addr) (cap : Nat) (l : List PolD) (w : World) (hS : SortsAt w) (h : RowAt w ao l) (hl : l.length ≤ 1000000) (hk : ∀ i (h : i < l.length), isK l[i].k = true) :
    Calls Tryd.prog 64 #[.slice ao l.length cap, .func (.func 52) #[] #[]] w fun e w' => ∃ sv, e = .returned sv ∧ KeptI w w' l l.length sv := by
  have HS := Lib.hid hS
  have HR := Lib.hid h
  have HL := Lib.hid hl
  have HKA := Lib.hid hk
  clear hS h hl hk
  obtain ⟨i0, hi, hz0, hz1, hz2⟩ := info_parts Tryd.info46
  go_enter Tryd.func64, Tryd.ntmps64
  go_wp2_with fail
  go_loopw [5, 10] (fun v i wr => ∃ k : Nat, i = .int .i64 k ∧ k ≤ l.length ∧ KeptI w wr l k v) (fun _ i _ => l.length - (intOf i).toNat)
  case atStart => exact ⟨0, rfl, Nat.zero_le _, World.ownsRow_nil _ _ _ _, Below.refl _ _⟩
  case round =>
    obtain ⟨k, rfl, hk, hinv⟩ := hrel
    have HI := Lib.hid hinv
    clear hinv
    by_cases hlt : k < l.length
    · rcases HR.out with h0 | ⟨b, off, rfl, hb, hp⟩
      · subst h0; exact absurd hlt (by simp)
      obtain ⟨c0, c1⟩ := (hp.below HI.out.below hb) k hlt
      obtain ⟨kk, hkk⟩ : ∃ kk, l[k].k = kk := ⟨_, rfl⟩
      obtain ⟨vv, hvv⟩ : ∃ vv, l[k].v = vv := ⟨_, rfl⟩
      rw [hkk] at c0
      rw [hvv] at c1
      have HKK := Lib.hid hkk
      have HVV := Lib.hid hvv
      have hb1 : Below wr.heap.size wr (wr.alloc (polO kk vv)) := (Below.refl _ _).alloc (Nat.le_refl _) _
      have HI1 := Lib.hid (HI.out.later hb1)
      have IP := Lib.hid fun wx (hx : Below w.heap.size w wx) => isPlain_any kk vv wx (HS.out.below hx HS.out.pos) (by have := HKA.out k hlt; rwa [HKK.out] at this)
      have hk1 : (k : Int) < (l.length : Int) := by omega
      have hk2 : (k : Int) + 1 ≤ 9223372036854775807 := by have := HL.out; omega
      have HK1 := Lib.hid hkk
      clear hkk hvv hp hb1
      obtain ⟨r, hr⟩ : ∃ r, plainP kk vv = r := ⟨_, rfl⟩
      rw [hr] at IP
      have HRR := Lib.hid hr
      clear hr
      cases r
      · go_wp2_with (go_at_call 52; refine (IP.out _ HI1.out.below).mono ?_; rintro e w2 ⟨rfl, hb2⟩; have HI2 := Lib.hid (HI1.out.later hb2); clear hb2)
        have HN : Hid (KeptI w w2 l (k + 1) _) := Lib.hid (⟨by rw [keptTo_no hlt (by rw [HKK.out, HVV.out]; exact HRR.out)]; exact HI2.out.own, HI2.out.below⟩)
        exact ⟨⟨k + 1, by go_num, hlt, HN.out⟩, by simp [intOf]; omega⟩
      · have HLK : Hid ((keptTo l k).length ≤ 1000000) := Lib.hid (by have := keptTo_len l k; have := HL.out; omega)
        go_wp2_with (first | (go_at_call 52; refine (IP.out _ HI1.out.below).mono ?_; rintro e w2 ⟨rfl, hb2⟩; have n0 := (hb2.cell (p := ⟨wr.heap.size, 0, none⟩) (by simp)).trans (polO_c0 kk vv wr); have n1 := (hb2.cell (p := ⟨wr.heap.size, 1, none⟩) (by simp)).trans (polO_c1 kk vv wr); have HI2 := Lib.hid (HI1.out.later hb2); clear hb2) | (at_builtin; refine wpList_append_own_at _ rfl _ _ 22 rfl w.heap.size 24 i0 (.agg #[.int .i64 0, .int .i64 0]) 2 16 u22 hi hz0 hz1 hz2 rfl (by decide) _ _ _ rfl (HI2.out.own.alloc _) ⟨w2.heap.size, 0, none⟩ 1 1 [.int .i64 kk, .int .i64 vv] rfl rfl (cell_pol_new (heap_alloc_new _ _)) (by simp [Value.oneCell']) (by have := HLK.out; unfold maxLen; omega) (by have := HLK.out; omega) (by have := HI2.out.below.size; simp; omega) ?_; intro v' w3 hown' hgrow _ _; have HI3 := Lib.hid (KeptI.grown (HI2.out.later ((Below.refl _ _).alloc (Nat.le_refl _) _)) hgrow hown' hlt HKK.out HVV.out HRR.out); clear hown' hgrow))
        exact ⟨⟨k + 1, by go_num, hlt, HI3.out⟩, by simp [intOf]; omega⟩
    · obtain rfl : k = l.length := by omega
      go_wp2_with fail
      go_ret
      exact ⟨_, rfl, HI.out⟩

end Go.Proofs.YtladjkkkhomngaaDoor
