/- The contract of policy.Agree where what is kept clashes: the first pair's first kind. -/
import Derived.Test.YtladjkkkhomngaaDoorT
namespace Go.Proofs.YtladjkkkhomngaaDoor
set_option maxRecDepth 8000
open Go.RowKit Go.Sort Go.BigFrame

set_option maxRecDepth 100000 in
set_option maxHeartbeats 4000000 in
theorem agree_clash (ao1 ao2 : Option Addr) (cap1 cap2 : Nat) (c s : List PolD) (w : World) (hS : SortsAt w) (h1 : RowAt w ao1 c) (h2 : RowAt w ao2 s) (hl1 : c.length ≤ 9223372036854775807) (hl2 : s.length ≤ 9223372036854775807) (k1 : okS c = true) (k2 : okS s = true) (k3 : ¬ valOf s 11 < valOf c 11)
    (hK : okS (keptTo (agL c s 6) 6) = true) (p : Int × Int) (rest : List (Int × Int)) (hnil : clTo (keptTo (agL c s 6) 6) 7 = p :: rest) (hp8 : 8 ≤ p.1) :
    Calls Tryd.prog 32 #[.slice ao1 c.length cap1, .slice ao2 s.length cap2] w fun e w' => e = .returned (.tuple #[.slice none 0 0, .int .i64 p.1, .int .i64 9]) ∧ Below w.heap.size w w' := by
  have VC := Lib.hid (validSet_any ao1 cap1 c w hS h1 hl1)
  have VS := Lib.hid fun wx (hx : Below w.heap.size w wx) => validSet_any ao2 cap2 s wx (hS.below hx hS.pos) (h2.below hx) hl2
  have GC := Lib.hid fun wx (hx : Below w.heap.size w wx) => get_any ao1 cap1 c 11 wx (hS.below hx hS.pos) (by decide) (h1.below hx) hl1
  have GS := Lib.hid fun wx (hx : Below w.heap.size w wx) => get_any ao2 cap2 s 11 wx (hS.below hx hS.pos) (by decide) (h2.below hx) hl2
  have A8 := Lib.hid fun wx (hx : Below w.heap.size w wx) => agreed8 ao1 ao2 cap1 cap2 c s wx (hS.below hx hS.pos) (h1.below hx) (h2.below hx) hl1 hl2
  have A9 := Lib.hid fun wx (hx : Below w.heap.size w wx) => agreed9 ao1 ao2 cap1 cap2 c s wx (hS.below hx hS.pos) (h1.below hx) (h2.below hx) hl1 hl2 k1 k2
  have A10 := Lib.hid fun wx (hx : Below w.heap.size w wx) => agreed10 ao1 ao2 cap1 cap2 c s wx (hS.below hx hS.pos) (h1.below hx) (h2.below hx) hl1 hl2
  have A11 := Lib.hid fun wx (hx : Below w.heap.size w wx) => agreed11 ao1 ao2 cap1 cap2 c s wx (hS.below hx hS.pos) (h1.below hx) (h2.below hx) hl1 hl2
  have A12 := Lib.hid fun wx (hx : Below w.heap.size w wx) => agreed12 ao1 ao2 cap1 cap2 c s wx (hS.below hx hS.pos) (h1.below hx) (h2.below hx) hl1 hl2
  have A13 := Lib.hid fun wx (hx : Below w.heap.size w wx) => agreed13 ao1 ao2 cap1 cap2 c s wx (hS.below hx hS.pos) (h1.below hx) (h2.below hx) hl1 hl2
  have HS := Lib.hid fun wx (hx : Below w.heap.size w wx) => hS.below hx hS.pos
  have HNIL := Lib.hid hnil
  have HP8 := Lib.hid hp8
  have HOK := Lib.hid hK
  rw [k1] at VC
  rw [k2] at VS
  obtain ⟨a, ha⟩ : ∃ a, valOf c 11 = a := ⟨_, rfl⟩
  obtain ⟨b, hb⟩ : ∃ b, valOf s 11 = b := ⟨_, rfl⟩
  rw [ha] at GC k3
  rw [hb] at GS k3
  have e1 : decide (b < a) = false := by simpa using k3
  clear hS h1 hl1 k1 h2 hl2 k2 k3 ha hb hK hnil hp8
  obtain ⟨i0, hi, hz0, hz1, hz2⟩ := info_parts Tryd.info46
  go_enter Tryd.func32, Tryd.ntmps32
  go_wp2_with (first | (go_at_call 13; (fail_if_success (have := B1)); refine VC.out.mono ?_; rintro e w1 ⟨rfl, hb1⟩; have B1 := Lib.hid hb1; clear hb1) | (go_at_call 13; refine (VS.out _ B1.out).mono ?_; rintro e w2 ⟨rfl, hb2⟩; have B2 := Lib.hid (B1.out.trans (hb2.mono B1.out.size)); clear hb2) | (go_at_call 40; (fail_if_success (have := B3)); refine (GC.out _ B2.out).mono ?_; rintro e w3 ⟨rfl, hb3⟩; have B3 := Lib.hid (B2.out.trans (hb3.mono B2.out.size)); clear hb3) | (go_at_call 40; refine (GS.out _ B3.out).mono ?_; rintro e w4 ⟨rfl, hb4⟩; have B4 := Lib.hid (B3.out.trans (hb4.mono B3.out.size)); clear hb4))
  have I0 : Hid (AgI w w4 c s 0 (.slice none 0 0)) := Lib.hid ⟨World.ownsRow_nil _ _ _ _, B4.out⟩
  go_loopw [11, 12] (fun v i wr => ∃ k : Nat, i = .int .i64 ((8 : Int) + k) ∧ k ≤ 6 ∧ AgI w wr c s k v) (fun _ i _ => 14 - (intOf i).toNat)
  case atStart => exact ⟨0, rfl, by omega, I0.out⟩
  case round =>
    obtain ⟨k, rfl, hk, hinv⟩ := hrel
    have HI := Lib.hid hinv
    clear hinv
    have hh : k = 0 ∨ k = 1 ∨ k = 2 ∨ k = 3 ∨ k = 4 ∨ k = 5 ∨ k = 6 := by omega
    clear hk
    rcases hh with rfl | rfl | rfl | rfl | rfl | rfl | rfl
    · obtain ⟨v, hv⟩ : ∃ v, agreedV c s 8 = v := ⟨_, rfl⟩
      have AG := Lib.hid (A8.out _ HI.out.below)
      rw [hv] at AG
      have HV := Lib.hid hv
      clear hv
      go_wp2_with (first | (go_at_call 63; refine AG.out.mono ?_; rintro e w5 ⟨rfl, hb5⟩; have HI5 := Lib.hid (HI.out.later hb5); clear hb5) | (at_builtin; refine wpList_append_own_at _ rfl _ _ 22 rfl w.heap.size 24 i0 (.agg #[.int .i64 0, .int .i64 0]) 2 16 under22 hi hz0 hz1 hz2 rfl (by decide) _ _ _ rfl (HI5.out.own.alloc _) ⟨w5.heap.size, 0, none⟩ 1 1 [.int .i64 8, .int .i64 v] rfl rfl (cell_pol_new (heap_alloc_new _ _)) (by simp [Value.oneCell']) (by unfold maxLen; omega) (by omega) (by have := HI5.out.below.size; simp; omega) ?_; intro v' w6 hown' hgrow _ _; have HI6 := Lib.hid (AgI.grown (HI5.out.later ((Below.refl _ _).alloc (Nat.le_refl _) _)) hgrow hown' (by decide) HV.out); clear hown' hgrow))
      exact ⟨⟨1, rfl, by omega, HI6.out⟩, by simp [intOf]⟩
    · obtain ⟨v, hv⟩ : ∃ v, agreedV c s 9 = v := ⟨_, rfl⟩
      have AG := Lib.hid (A9.out _ HI.out.below)
      rw [hv] at AG
      have HV := Lib.hid hv
      clear hv
      go_wp2_with (first | (go_at_call 63; refine AG.out.mono ?_; rintro e w5 ⟨rfl, hb5⟩; have HI5 := Lib.hid (HI.out.later hb5); clear hb5) | (at_builtin; refine wpList_append_own_at _ rfl _ _ 22 rfl w.heap.size 24 i0 (.agg #[.int .i64 0, .int .i64 0]) 2 16 under22 hi hz0 hz1 hz2 rfl (by decide) _ _ _ rfl (HI5.out.own.alloc _) ⟨w5.heap.size, 0, none⟩ 1 1 [.int .i64 9, .int .i64 v] rfl rfl (cell_pol_new (heap_alloc_new _ _)) (by simp [Value.oneCell']) (by unfold maxLen; omega) (by omega) (by have := HI5.out.below.size; simp; omega) ?_; intro v' w6 hown' hgrow _ _; have HI6 := Lib.hid (AgI.grown (HI5.out.later ((Below.refl _ _).alloc (Nat.le_refl _) _)) hgrow hown' (by decide) HV.out); clear hown' hgrow))
      exact ⟨⟨2, rfl, by omega, HI6.out⟩, by simp [intOf]⟩
    · obtain ⟨v, hv⟩ : ∃ v, agreedV c s 10 = v := ⟨_, rfl⟩
      have AG := Lib.hid (A10.out _ HI.out.below)
      rw [hv] at AG
      have HV := Lib.hid hv
      clear hv
      go_wp2_with (first | (go_at_call 63; refine AG.out.mono ?_; rintro e w5 ⟨rfl, hb5⟩; have HI5 := Lib.hid (HI.out.later hb5); clear hb5) | (at_builtin; refine wpList_append_own_at _ rfl _ _ 22 rfl w.heap.size 24 i0 (.agg #[.int .i64 0, .int .i64 0]) 2 16 under22 hi hz0 hz1 hz2 rfl (by decide) _ _ _ rfl (HI5.out.own.alloc _) ⟨w5.heap.size, 0, none⟩ 1 1 [.int .i64 10, .int .i64 v] rfl rfl (cell_pol_new (heap_alloc_new _ _)) (by simp [Value.oneCell']) (by unfold maxLen; omega) (by omega) (by have := HI5.out.below.size; simp; omega) ?_; intro v' w6 hown' hgrow _ _; have HI6 := Lib.hid (AgI.grown (HI5.out.later ((Below.refl _ _).alloc (Nat.le_refl _) _)) hgrow hown' (by decide) HV.out); clear hown' hgrow))
      exact ⟨⟨3, rfl, by omega, HI6.out⟩, by simp [intOf]⟩
    · obtain ⟨v, hv⟩ : ∃ v, agreedV c s 11 = v := ⟨_, rfl⟩
      have AG := Lib.hid (A11.out _ HI.out.below)
      rw [hv] at AG
      have HV := Lib.hid hv
      clear hv
      go_wp2_with (first | (go_at_call 63; refine AG.out.mono ?_; rintro e w5 ⟨rfl, hb5⟩; have HI5 := Lib.hid (HI.out.later hb5); clear hb5) | (at_builtin; refine wpList_append_own_at _ rfl _ _ 22 rfl w.heap.size 24 i0 (.agg #[.int .i64 0, .int .i64 0]) 2 16 under22 hi hz0 hz1 hz2 rfl (by decide) _ _ _ rfl (HI5.out.own.alloc _) ⟨w5.heap.size, 0, none⟩ 1 1 [.int .i64 11, .int .i64 v] rfl rfl (cell_pol_new (heap_alloc_new _ _)) (by simp [Value.oneCell']) (by unfold maxLen; omega) (by omega) (by have := HI5.out.below.size; simp; omega) ?_; intro v' w6 hown' hgrow _ _; have HI6 := Lib.hid (AgI.grown (HI5.out.later ((Below.refl _ _).alloc (Nat.le_refl _) _)) hgrow hown' (by decide) HV.out); clear hown' hgrow))
      exact ⟨⟨4, rfl, by omega, HI6.out⟩, by simp [intOf]⟩
    · obtain ⟨v, hv⟩ : ∃ v, agreedV c s 12 = v := ⟨_, rfl⟩
      have AG := Lib.hid (A12.out _ HI.out.below)
      rw [hv] at AG
      have HV := Lib.hid hv
      clear hv
      go_wp2_with (first | (go_at_call 63; refine AG.out.mono ?_; rintro e w5 ⟨rfl, hb5⟩; have HI5 := Lib.hid (HI.out.later hb5); clear hb5) | (at_builtin; refine wpList_append_own_at _ rfl _ _ 22 rfl w.heap.size 24 i0 (.agg #[.int .i64 0, .int .i64 0]) 2 16 under22 hi hz0 hz1 hz2 rfl (by decide) _ _ _ rfl (HI5.out.own.alloc _) ⟨w5.heap.size, 0, none⟩ 1 1 [.int .i64 12, .int .i64 v] rfl rfl (cell_pol_new (heap_alloc_new _ _)) (by simp [Value.oneCell']) (by unfold maxLen; omega) (by omega) (by have := HI5.out.below.size; simp; omega) ?_; intro v' w6 hown' hgrow _ _; have HI6 := Lib.hid (AgI.grown (HI5.out.later ((Below.refl _ _).alloc (Nat.le_refl _) _)) hgrow hown' (by decide) HV.out); clear hown' hgrow))
      exact ⟨⟨5, rfl, by omega, HI6.out⟩, by simp [intOf]⟩
    · obtain ⟨v, hv⟩ : ∃ v, agreedV c s 13 = v := ⟨_, rfl⟩
      have AG := Lib.hid (A13.out _ HI.out.below)
      rw [hv] at AG
      have HV := Lib.hid hv
      clear hv
      go_wp2_with (first | (go_at_call 63; refine AG.out.mono ?_; rintro e w5 ⟨rfl, hb5⟩; have HI5 := Lib.hid (HI.out.later hb5); clear hb5) | (at_builtin; refine wpList_append_own_at _ rfl _ _ 22 rfl w.heap.size 24 i0 (.agg #[.int .i64 0, .int .i64 0]) 2 16 under22 hi hz0 hz1 hz2 rfl (by decide) _ _ _ rfl (HI5.out.own.alloc _) ⟨w5.heap.size, 0, none⟩ 1 1 [.int .i64 13, .int .i64 v] rfl rfl (cell_pol_new (heap_alloc_new _ _)) (by simp [Value.oneCell']) (by unfold maxLen; omega) (by omega) (by have := HI5.out.below.size; simp; omega) ?_; intro v' w6 hown' hgrow _ _; have HI6 := Lib.hid (AgI.grown (HI5.out.later ((Below.refl _ _).alloc (Nat.le_refl _) _)) hgrow hown' (by decide) HV.out); clear hown' hgrow))
      exact ⟨⟨6, rfl, by omega, HI6.out⟩, by simp [intOf]⟩
    · obtain ⟨ao3, cap3, rfl, hr3⟩ := row_of_own (l := agL c s 6) (by rw [agL_len]; exact HI.out.own)
      have hkind : ∀ i (h : i < (agL c s 6).length), isK (agL c s 6)[i].k = true := fun i h => agL_isK c s 6 (Nat.le_refl _) _ (List.getElem_mem h)
      have kp := kept_any ao3 cap3 (agL c s 6) wr (HS.out wr HI.out.below) hr3 (by rw [agL_len]; omega) hkind
      rw [agL_len] at kp
      obtain ⟨K, hKK⟩ : ∃ K, keptTo (agL c s 6) 6 = K := ⟨_, rfl⟩
      have kq : Calls Tryd.prog 64 #[.slice ao3 6 cap3, .func (.func 52) #[] #[]] wr fun e w' => ∃ sv, e = .returned sv ∧ w'.ownsRow wr.heap.size 24 2 sv K.length (polCells K) ∧ Below wr.heap.size wr w' :=
        kp.mono fun _ _ ⟨sv, he, hi⟩ => ⟨sv, he, hKK ▸ hi.own, hi.below⟩
      have KQ := Lib.hid kq
      have HN := HNIL.out
      have HO := HOK.out
      rw [hKK] at HN HO
      have hKl : K.length ≤ 6 := by rw [← hKK]; exact keptTo_len _ _
      have cq : ∀ w7 ao cap, Below w.heap.size w w7 → RowAt w7 ao K → Calls Tryd.prog 31 #[.slice ao K.length cap] w7 fun e w' => ∃ g cap', e = .returned (.tuple #[.slice (some ⟨g, 0, none⟩) (rest.length + 1) cap', .int .i64 0]) ∧ w'.cell? ⟨g, 0, none⟩ = some (.int .i64 p.1) ∧ w'.cell? ⟨g, 1, none⟩ = some (.int .i64 p.2) ∧ g < w'.heap.size ∧ Below w7.heap.size w7 w' := fun w7 ao cap hb hr =>
        (clashes_set ao cap K w7 (HS.out w7 hb) hr (by omega) HO).mono fun _ _ ⟨sv, bt, he, hc⟩ => by
          have ho := hc.own
          rw [HN] at ho
          obtain ⟨g, cap', rfl⟩ : ∃ g cap', sv = .slice (some ⟨g, 0, none⟩) (p :: rest).length cap' := by
            rcases ho.2 with ⟨_, h0⟩ | ⟨g, cap', _, hv, _⟩
            · simp at h0
            · exact ⟨g, cap', hv⟩
          have hc0 := ho.cells (g := g) rfl 0 (.int .i64 p.1) (by simp [pairCells])
          have hc1 := ho.cells (g := g) rfl 1 (.int .i64 p.2) (by simp [pairCells])
          exact ⟨g, cap', he, hc0, hc1, (ho.lt g rfl).2, hc.below⟩
      have CQ := Lib.hid cq
      have HKK := Lib.hid hKK
      rw [agL_len]
      clear hkind kp kq cq HN HO hKK hKl hr3
      go_wp2_with (first | (go_at_call 64; refine KQ.out.mono ?_; rintro e w7 ⟨sv3, rfl, hown7, hb7⟩; obtain ⟨ao4, cap4, rfl, hr4⟩ := row_of_own hown7; have HO7 := Lib.hid hown7; have HR4 := Lib.hid hr4; have B7 := Lib.hid (HI.out.below.trans (hb7.mono HI.out.below.size)); have HB7 := Lib.hid hb7; clear hown7 hr4 hb7) | (go_at_call 31; refine (CQ.out w7 ao4 cap4 B7.out HR4.out).mono ?_; rintro e w8 ⟨g8, cap5, rfl, p0, p1, g8lt, hb8⟩; have P0 := Lib.hid p0; have P1 := Lib.hid p1; clear p0 p1; have B8 := Lib.hid hb8; clear hb8))
      go_loopw [60] (fun i wr' => i = .int .i64 0 ∧ wr' = w8) (fun _ _ => 0)
      case atStart => exact ⟨rfl, rfl⟩
      case round =>
        obtain ⟨rfl, rfl⟩ := hrel
        have p0 := P0.out
        have p1 := P1.out
        obtain ⟨x, hx⟩ : ∃ x, p.1 = x := ⟨_, rfl⟩
        obtain ⟨y, hy⟩ : ∃ y, p.2 = y := ⟨_, rfl⟩
        rw [hx] at p0
        rw [hy] at p1
        have e8 : decide (8 ≤ x) = true := by have := HP8.out; simp; omega
        have hr0 : (0 : Int) < (rest.length : Int) + 1 := by omega
        have HX := Lib.hid hx
        clear hx hy
        go_wp2_with fail
        go_quiet (fail)
        go_wp2_with fail
        go_ret3
        rw [HX.out]
        have bb := B7.out.trans (B8.out.mono B7.out.size)
        exact ⟨rfl, (bb.alloc bb.size _).trans ((below_drewN' _ _).mono (bb.alloc bb.size _).size)⟩

end Go.Proofs.YtladjkkkhomngaaDoor
