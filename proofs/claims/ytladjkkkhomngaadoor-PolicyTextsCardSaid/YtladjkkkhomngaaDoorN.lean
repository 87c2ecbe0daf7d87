/- The contract of the reference's plain: the same row as kept's. -/
import Derived.Test.YtladjkkkhomngaaDoorM
namespace Go.Proofs.YtladjkkkhomngaaDoor
set_option maxRecDepth 8000
open Go.RowKit Go.Sort Go.BigFrame

theorem under22 : Tryd.prog.underlying 22 = some (.slice 24) := by kernel_rfl

set_option maxRecDepth 100000 in
set_option maxHeartbeats 1000000 in
theorem rplain_any (ao : Option Addr) (cap : Nat) (l : List PolD) (w : World) (h : RowAt w ao l) (hl : l.length ≤ 1000000) :
    Calls Tryd.prog 53 #[.slice ao l.length cap] w fun e w' => ∃ sv, e = .returned sv ∧ KeptI w w' l l.length sv := by
  have HR := Lib.hid h
  have HL := Lib.hid hl
  clear h hl
  obtain ⟨i0, hi, hz0, hz1, hz2⟩ := info_parts Tryd.info46
  go_enter Tryd.func53, Tryd.ntmps53
  go_wp2_with fail
  go_loopw [3, 8] (fun v i wr => ∃ k : Nat, i = .int .i64 k ∧ k ≤ l.length ∧ KeptI w wr l k v) (fun _ i _ => l.length - (intOf i).toNat)
  case atStart => exact ⟨0, rfl, Nat.zero_le _, World.ownsRow_nil _ _ _ _, Below.refl _ _⟩
  case round =>
    obtain ⟨k, rfl, hk, hinv⟩ := hrel
    have HI := Lib.hid hinv
    clear hinv
    by_cases hlt : k < l.length
    · rcases HR.out with h0 | ⟨b, off, rfl, hb, hp⟩
      · subst h0; exact absurd hlt (by simp)
      obtain ⟨c0, c1⟩ := (hp.below HI.out.below hb) k hlt
      obtain ⟨kk, hkk⟩ : ∃ kk, l[k].k = kk := ⟨_, rfl⟩
      obtain ⟨vv, hvv⟩ : ∃ vv, l[k].v = vv := ⟨_, rfl⟩
      rw [hkk] at c0
      rw [hvv] at c1
      have HKK := Lib.hid hkk
      have HVV := Lib.hid hvv
      have hb1 : Below wr.heap.size wr (wr.alloc (polO kk vv)) := (Below.refl _ _).alloc (Nat.le_refl _) _
      have HI1 := Lib.hid (HI.out.later hb1)
      obtain ⟨w1, hw1⟩ : ∃ w1, wr.alloc (polO kk vv) = w1 := ⟨_, rfl⟩
      have n0 := cell_regrown (hw1 ▸ polO_c0 kk vv wr)
      have n1 := cell_regrown (hw1 ▸ polO_c1 kk vv wr)
      rw [hw1] at HI1
      obtain ⟨dv, hdv⟩ : ∃ dv, defV kk = dv := ⟨_, rfl⟩
      have cV : Hid (∀ d os, Calls Tryd.prog 42 #[.slice none 0 0, .int .i64 kk] (grow (redrawn w1 d) os) fun e w'' => e = .returned (.int .i64 dv) ∧ ∃ p : Regrown, w'' = grow (redrawn w1 p.d) p.os) :=
        Lib.hid fun d os => Calls.regrown_of (hdv ▸ value_any none 0 [] kk _ (.inl rfl) (by simp))
      have Hw1 := Lib.hid hw1
      have HD := Lib.hid hdv
      have hk1 : (k : Int) < (l.length : Int) := by omega
      have hk2 : (k : Int) + 1 ≤ 9223372036854775807 := by have := HL.out; omega
      have HK1 := Lib.hid hkk
      clear hkk hvv hp hb1 hw1 hdv
      go_wp2_with fail
      rw [show wr.alloc (Obj.cells #[Value.int IntKind.i64 kk, Value.int IntKind.i64 vv] 24) = w1 from Hw1.out]
      by_cases hp : vv = dv
      · have e1 : (vv != dv) = false := by simpa using hp
        have HRR : Hid (plainP kk vv = false) := Lib.hid (by unfold plainP; rw [HD.out]; simpa using hp)
        clear hp
        refine wp_region_quiet_below (by kernel_rfl) (by kernel_rfl) ?_
        repeat (go_big_quiet_step (exact cV.out _ _))
        refine wpQuiet_nil ?_
        intro _ hw'
        obtain ⟨⟨dq, osq⟩, hw''⟩ := hw'
        subst hw''
        have HI2 := Lib.hid (HI1.out.later (below_regrown w1 dq osq))
        go_wp2_with fail
        have HN : Hid (KeptI w (grow (redrawn w1 dq) osq) l (k + 1) _) := Lib.hid (⟨by rw [keptTo_no hlt (by rw [HKK.out, HVV.out]; exact HRR.out)]; exact HI2.out.own, HI2.out.below⟩)
        exact ⟨⟨k + 1, by go_num, hlt, HN.out⟩, by simp [intOf]; omega⟩
      · have e1 : (vv != dv) = true := by simpa using hp
        have HRR : Hid (plainP kk vv = true) := Lib.hid (by unfold plainP; rw [HD.out]; simpa using hp)
        have HLK : Hid ((keptTo l k).length ≤ 1000000) := Lib.hid (by have := keptTo_len l k; have := HL.out; omega)
        clear hp
        refine wp_region_quiet_below (by kernel_rfl) (by kernel_rfl) ?_
        repeat (go_big_quiet_step (exact cV.out _ _))
        refine wpQuiet_nil ?_
        intro _ hw'
        obtain ⟨⟨dq, osq⟩, hw''⟩ := hw'
        subst hw''
        have HI2 := Lib.hid (HI1.out.later (below_regrown w1 dq osq))
        obtain ⟨w2, hw2⟩ : ∃ w2, grow (redrawn w1 dq) osq = w2 := ⟨_, rfl⟩
        have m0 : w2.cell? ⟨wr.heap.size, 0, none⟩ = some (.int .i64 kk) := hw2 ▸ n0 dq osq
        have m1 : w2.cell? ⟨wr.heap.size, 1, none⟩ = some (.int .i64 vv) := hw2 ▸ n1 dq osq
        rw [hw2] at HI2 ⊢
        clear hw2
        go_wp2_with (at_builtin; refine wpList_append_own_at _ rfl _ _ 22 rfl w.heap.size 24 i0 (.agg #[.int .i64 0, .int .i64 0]) 2 16 under22 hi hz0 hz1 hz2 rfl (by decide) _ _ _ rfl (HI2.out.own.alloc _) ⟨w2.heap.size, 0, none⟩ 1 1 [.int .i64 kk, .int .i64 vv] rfl rfl (cell_pol_new (heap_alloc_new _ _)) (by simp [Value.oneCell']) (by have := HLK.out; unfold maxLen; omega) (by have := HLK.out; omega) (by have := HI2.out.below.size; simp; omega) ?_; intro v' w3 hown' hgrow _ _; have HI3 := Lib.hid (KeptI.grown (HI2.out.later ((Below.refl _ _).alloc (Nat.le_refl _) _)) hgrow hown' hlt HKK.out HVV.out HRR.out); clear hown' hgrow)
        exact ⟨⟨k + 1, by go_num, hlt, HI3.out⟩, by simp [intOf]; omega⟩
    · obtain rfl : k = l.length := by omega
      go_wp2_with fail
      go_ret
      exact ⟨_, rfl, HI.out⟩

end Go.Proofs.YtladjkkkhomngaaDoor
