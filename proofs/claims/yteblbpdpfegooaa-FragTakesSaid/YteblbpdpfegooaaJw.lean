/- The law FragTakes returns true, whatever the acts and the limits. -/
import Derived.Test.YteblbpdpfegooaaJv
namespace Go.Proofs.Yteblbpdpfegooaa
open Go.RowKit Go.Sort Go.BigFrame

set_option maxRecDepth 100000 in
set_option maxHeartbeats 16000000 in
theorem takesLaw_any (ao : Option Addr) (cap : Nat) (l : List Ac) (most room : Int) (w : World) (h : AcRow w ao l) (hl : l.length ≤ 4611686018427387904) (hl2 : (l.length + 1) * 40 ≤ 140737488355328) :
    Calls Try.prog 3 #[.int .i64 most, .int .i64 room, .slice ao l.length cap] w fun e w' => e = .returned (.bool true) ∧ Below w.heap.size w w' := by
  have HR := Lib.hid h
  have HL := Lib.hid (And.intro hl hl2)
  have AW := Lib.hid fun wx => awake_any wx
  have NA := Lib.hid fun wx => fnewX most room wx
  have NB := Lib.hid fun wx => rnewX most room wx
  clear h hl hl2
  go_enter Try.func3, Try.ntmps3
  go_wp2_with fail
  go_loopw [7, 30] (fun v i wr => ∃ k : Nat, i = .int .i64 k ∧ k ≤ l.length ∧ PgI w wr v ((l.take k).map (·.p))) (fun _ i _ => l.length - (intOf i).toNat)
  case atStart => exact ⟨0, rfl, Nat.zero_le _, by simpa [pcCells] using World.ownsRow_nil _ _ _ _, Below.refl _ _⟩
  case round =>
    obtain ⟨k, rfl, hk, hp⟩ := hrel
    have HP := Lib.hid hp
    clear hp
    by_cases hlt : k < l.length
    · rcases HR.out with h0 | ⟨bb, off, rfl, hbb, hac⟩
      · subst h0; exact absurd hlt (by simp)
      obtain ⟨c0, c1, c2, c3, c4, c5⟩ := (hac.below HP.out.below hbb) k hlt
      have hst : (l.take (k + 1)).map (·.p) = (l.take k).map (·.p) ++ [l[k].p] := by rw [List.take_succ_eq_append_getElem hlt, List.map_append]; rfl
      obtain ⟨x, hx⟩ : ∃ x, l[k] = x := ⟨_, rfl⟩
      rw [hx] at c0 c1 c2 c3 c4 c5 hst
      obtain ⟨kd, id, pi, pl, m, bd⟩ := x
      simp only at c0 c1 c2 c3 c4 c5 hst
      have HST := Lib.hid hst
      have HLN : Hid (((l.take k).map (·.p)).length ≤ 4611686018427387904 ∧ (((l.take k).map (·.p)).length + 1) * 40 ≤ 140737488355328) := Lib.hid (by have := HL.out; rw [List.length_map, List.length_take]; omega)
      have HP1 := Lib.hid (HP.out.later ((Below.refl wr.heap.size wr).alloc (Nat.le_refl _) (acO kd id pi pl m bd)))
      have HLT := Lib.hid hlt
      have hk1 : (k : Int) < (l.length : Int) := by omega
      have hk0 : (0 : Int) ≤ (k : Int) := by omega
      have hk2 : (k : Int) + 1 ≤ 4611686018427387905 := by have := HL.out; omega
      clear hx hac hst
      go_wp2_with (at_builtin; refine wpList_pc HP1.out (by rfl) _ _ (by rfl) (by rfl) (wr.heap.size + 1) (by simp) (by rfl) HLN.out.1 HLN.out.2 ?_; intro v' w3 hp3; have HP3 := Lib.hid hp3; clear hp3)
      exact ⟨⟨k + 1, by go_num, HLT.out, by rw [HST.out]; exact HP3.out⟩, by simp [intOf]; have := HLT.out; omega⟩
    · obtain rfl : k = l.length := by omega
      rw [List.take_length] at HP
      obtain ⟨a7, c7, hv7, hr7⟩ := row_of_own HP.out.own
      have LI := Lib.hid (light_any a7 c7 (l.map (·.p)) wr hr7 (by rw [List.length_map]; have := HL.out.1; omega))
      subst hv7
      have HB := Lib.hid HP.out.below
      have HLL : Hid ((l.map (·.p)).length = l.length) := Lib.hid (by rw [List.length_map])
      rw [HLL.out] at LI
      clear HP hr7
      go_wp2_with fail
      refine LI.out.mono ?_
      rintro e w1 ⟨r, rfl, hr, hb1⟩
      have B1 := Lib.hid (HB.out.trans (hb1.mono HB.out.size))
      clear hr hb1 HB LI HLL
      cases r
      · go_wp2_with (go_at_call 7; refine (AW.out _).mono ?_; rintro e w2 ⟨rfl, hb2⟩; have B2 := Lib.hid (B1.out.trans (hb2.mono B1.out.size)); clear hb2)
        go_ret
        exact ⟨rfl, B2.out⟩
      unfold NewX at NA NB
      cases hb : limB most room with
      | false =>
        simp only [hb, Bool.false_eq_true, if_false] at NA NB
        clear hb
        go_wp2_with (first
          | (go_at_call 8; refine (NA.out _).mono ?_; rintro e w2 ⟨rfl, rfl⟩)
          | (go_at_call 9; refine (NB.out _).mono ?_; rintro e w3 ⟨rfl, rfl⟩)
          | (go_at_call 7; refine (AW.out _).mono ?_; rintro e w4 ⟨rfl, hb2⟩; have B2 := Lib.hid (B1.out.trans (hb2.mono B1.out.size)); clear hb2))
        go_ret
        exact ⟨rfl, B2.out⟩
      | true =>
      simp only [hb, if_true] at NA NB
      have HLM := Lib.hid hb
      clear hb
      have SI := Lib.hid fun wx (lst : List Int) (hle : lst.length ≤ 100000) a1 a2 c1 c2 (r1 : IntRow wx a1 lst) (r2 : IntRow wx a2 lst) => sameI_eq a1 a2 c1 c2 lst wx r1 r2 hle
      go_wp2_with (first
        | (go_at_call 8; refine (NA.out _).mono ?_; rintro e w2 ⟨b1, F0, rfl, hj1, hn1, hb2⟩; have J1 := Lib.hid hj1; have N1 := Lib.hid hn1; have B2 := Lib.hid hb2; clear hj1 hn1 hb2)
        | (go_at_call 9; refine (NB.out _).mono ?_; rintro e w3 ⟨b2, G0, rfl, hj2, hn2, hb3⟩; have J2 := Lib.hid hj2; have N2 := Lib.hid hn2; have B3 := Lib.hid hb3; clear hj2 hn2 hb3))
      have hpj0 : Pj w w3 F0 G0 b1 b2 most room [] [] := by
        have s1 := B1.out.size
        have s2 := B2.out.size
        exact ⟨fx.below J1.out B3.out, J2.out, fun k hk e => by have := fx.few J1.out k hk; have := N2.out k e; omega, fun k hk => by have := N1.out k hk; omega, fun k hk => by have := N2.out k hk; omega, (B1.out.trans (B2.out.mono s1)).trans (B3.out.mono (by omega))⟩
      have HPJ := Lib.hid hpj0
      clear hpj0 J1 N1 B2 J2 N2 B3
      go_loopw [71] (fun i wr => ∃ k : Nat, i = .int .i64 k ∧ k ≤ l.length ∧ TkI w wr b1 b2 most room) (fun i _ => l.length - (intOf i).toNat)
      case atStart => exact ⟨0, rfl, Nat.zero_le _, ⟨F0, G0, [], HPJ.out, (by have := (limB_spec HLM.out).1; exact ⟨by simp; omega, fun x hx => by simp at hx, fun x hx => by simp at hx⟩), fun x hx => by simp at hx⟩⟩
      case round =>
        obtain ⟨k, rfl, hk, hI⟩ := hrel
        have HI := Lib.hid hI
        clear hI
        by_cases hlt : k < l.length
        rotate_left 1
        · obtain rfl : k = l.length := by omega
          obtain ⟨F, G, ops, hpj, _, _⟩ := HI.out.out
          have HB9 := Lib.hid hpj.below
          clear hpj
          go_wp2_with (go_at_call 7; refine (AW.out _).mono ?_; rintro e w9 ⟨rfl, hb⟩; have HB9 := Lib.hid (HB9.out.trans (hb.mono HB9.out.size)); clear hb)
          go_ret
          exact ⟨rfl, HB9.out⟩
        rcases HR.out with h0 | ⟨bb, off, rfl, hbb, hac⟩
        · subst h0; exact absurd hlt (by simp)
        obtain ⟨F, G, ops, hpj, hok, hnum⟩ := HI.out.out
        obtain ⟨c0, c1, c2, c3, c4, c5⟩ := (hac.below hpj.below hbb) k hlt
        obtain ⟨x, hx⟩ : ∃ x, l[k] = x := ⟨_, rfl⟩
        rw [hx] at c0 c1 c2 c3 c4 c5
        obtain ⟨kd, id, pi, pl, mo, bd⟩ := x
        simp only at c0 c1 c2 c3 c4 c5
        have HFW : Hid (∀ k, F k → k < wr.heap.size) := Lib.hid (fx.few hpj.a)
        have HGW : Hid (∀ k, G k → k < wr.heap.size) := Lib.hid (rx.few hpj.b)
        have PT := Lib.hid (hpj.later ((Below.refl wr.heap.size wr).alloc (Nat.le_refl _) (acO kd id pi pl mo bd)))
        have HOK := Lib.hid hok
        have HNUM := Lib.hid hnum
        have hcp := True.intro
        have a1 : (wr.alloc (acO kd id pi pl mo bd)).cell? ⟨wr.heap.size, 1, none⟩ = some (.int .i64 id) := cells_at (heap_alloc_new wr _) 1
        have HLT := Lib.hid hlt
        have hk1 : (k : Int) < (l.length : Int) := by omega
        have hk0 : (0 : Int) ≤ (k : Int) := by omega
        have hk2 : (k : Int) + 1 ≤ 4611686018427387905 := by have := HL.out; omega
        clear hx hac hpj hok hnum HI hbb
        by_cases h6 : kd = 6
        · subst h6
          have HCE := Lib.hid (fun F wx (hx : FX wx F b1 most room ops) => fcancelX b1 most room ops id F wx hx HOK.out HLM.out)
          have HCR := Lib.hid (fun G wx (hx : RX wx G b2 most room ops) => rcancelX b2 most room ops id G wx hx (by have := HOK.out.few; have := (limB_spec HLM.out).2.1; omega))
          have OM := Lib.hid (HOK.out.cancel id)
          have NM := Lib.hid (HNUM.out.cancel id)
          obtain ⟨m, hm⟩ : ∃ m, cancelL ops id = m := ⟨_, rfl⟩
          obtain ⟨er, her⟩ : ∃ er, cancelE ops id = er := ⟨_, rfl⟩
          rw [hm] at HCE HCR OM NM
          rw [her] at HCE HCR
          clear hm her
          have hl1 : m.length ≤ 100 := by have := OM.out.few; have := (limB_spec HLM.out).2.1; omega
          have OA := Lib.hid fun wx F (hx : FX wx F b1 most room m) => fopenX b1 most room m F wx hx hl1
          have OB := Lib.hid fun wx G (hx : RX wx G b2 most room m) => ropenX b2 most room m G wx hx hl1
          have BA := Lib.hid fun wx F (hx : FX wx F b1 most room m) => fbytesX b1 most room m F wx hx
          have BB := Lib.hid fun wx G (hx : RX wx G b2 most room m) => rbytesX b2 most room m G wx hx hl1 OM.out.body
          have HLm : Hid ((sortI (idsO m)).length ≤ 100000) := Lib.hid (by rw [sortI_len]; unfold idsO; rw [List.length_map]; omega)
          clear hl1
          go_wp2_with fail
          have hA0 : (wr.alloc (acO 6 id pi pl mo bd)).drew.heap[wr.heap.size]? = some (acO 6 id pi pl mo bd) := heap_alloc_new wr _
          have hS : AcS (wr.alloc (acO 6 id pi pl mo bd)).drew wr.heap.size id := ⟨cells_at hA0 1⟩
          have hpj := PT.out.later (show Below (wr.alloc (acO 6 id pi pl mo bd)).heap.size (wr.alloc (acO 6 id pi pl mo bd)) (wr.alloc (acO 6 id pi pl mo bd)).drew from below_drewN' _ 1)
          refine wp_region_C (S := fun W => AcS W wr.heap.size id) (c := 8) (by kernel_rfl) ?_
          refine takeC 3 (i := 0) (d := 108) (v := .pointer (some ⟨b1, 0, none⟩)) rfl rfl (by kernel_rfl) (by kernel_rfl) (by kernel_rfl) (by decide) (by kernel_rfl) (fun _ _ _ h => h) (by rfl) (by (rintro w ⟨s1⟩; go_simp)) hS ?_
          simp only [List.setIfInBounds_toArray, List.set_cons_zero, List.set_cons_succ]
          refine takeC 3 (i := 1) (d := 109) (v := .pointer (some ⟨wr.heap.size, 1, none⟩)) rfl rfl (by kernel_rfl) (by kernel_rfl) (by kernel_rfl) (by decide) (by kernel_rfl) (fun _ _ _ h => h) (by rfl) (by (rintro w ⟨s1⟩; go_simp)) hS ?_
          simp only [List.setIfInBounds_toArray, List.set_cons_zero, List.set_cons_succ]
          refine takeC 3 (i := 2) (d := 110) (v := .int .i64 id) rfl rfl (by kernel_rfl) (by kernel_rfl) (by kernel_rfl) (by decide) (by kernel_rfl) (fun _ _ _ h => h) (by rfl) (by (rintro w ⟨s1⟩; go_simp)) hS ?_
          simp only [List.setIfInBounds_toArray, List.set_cons_zero, List.set_cons_succ]
          refine takeC 3 (i := 4) (d := 112) (v := .pointer (some ⟨b2, 0, none⟩)) rfl rfl (by kernel_rfl) (by kernel_rfl) (by kernel_rfl) (by decide) (by kernel_rfl) (fun _ _ _ h => h) (by rfl) (by (rintro w ⟨s1⟩; go_simp)) hS ?_
          simp only [List.setIfInBounds_toArray, List.set_cons_zero, List.set_cons_succ]
          refine takeC 3 (i := 5) (d := 113) (v := .pointer (some ⟨wr.heap.size, 1, none⟩)) rfl rfl (by kernel_rfl) (by kernel_rfl) (by kernel_rfl) (by decide) (by kernel_rfl) (fun _ _ _ h => h) (by rfl) (by (rintro w ⟨s1⟩; go_simp)) hS ?_
          simp only [List.setIfInBounds_toArray, List.set_cons_zero, List.set_cons_succ]
          refine takeC 3 (i := 6) (d := 114) (v := .int .i64 id) rfl rfl (by kernel_rfl) (by kernel_rfl) (by kernel_rfl) (by decide) (by kernel_rfl) (fun _ _ _ h => h) (by rfl) (by (rintro w ⟨s1⟩; go_simp)) hS ?_
          simp only [List.setIfInBounds_toArray, List.set_cons_zero, List.set_cons_succ]
          refine stepU (i := 3) (by kernel_rfl) rfl (fun K hK => ?_)
          rw [if_pos (by rfl)]
          go_simp
          refine (HCE.out _ _ hpj.a).mono ?_
          rintro e w4 ⟨rfl, hs⟩
          have hA4 := step_keeps hs hA0 fun g => by have := HFW.out _ g; omega
          obtain ⟨F4, hp4⟩ := hpj.stepA hs
          have hS4 : AcS w4 wr.heap.size id := ⟨cells_at hA4 1⟩
          refine hK.out _ _ hS4 ?_
          clear hK K hs
          refine stepU (i := 7) (by kernel_rfl) rfl (fun K hK => ?_)
          rw [if_pos (by rfl)]
          go_simp
          refine (HCR.out _ _ hp4.b).mono ?_
          rintro e w5 ⟨rfl, hs⟩
          have hA5 := step_keeps hs hA4 fun g => by have := HGW.out _ g; omega
          obtain ⟨G5, hp5⟩ := hp4.stepB hs
          have hS5 : AcS w5 wr.heap.size id := ⟨cells_at hA5 1⟩
          refine hK.out _ _ hS5 ?_
          clear hK K hs
          refine stepC (by kernel_rfl) rfl (fun K hK => ?_)
          rw [if_pos (by rfl)]
          go_simp
          refine hK.out _ _ ?_
          clear hK K PT
          refine doneC (by kernel_rfl) ?_ _
          have PT := Lib.hid hp5
          clear hp4 hp5 hpj hA0 hA4 hA5 hS hS4 hS5
          go_wp2_with (first
            | (go_at_call 19; refine (OA.out _ _ PT.out.a).mono ?_; rintro e wa ⟨oa1, oc1, rfl, hin, hb⟩; have PT := Lib.hid (PT.out.later hb); have IA := Lib.hid hin.row; have IAL := HLm; clear hb hin)
            | (go_at_call 20; refine (OB.out _ _ PT.out.b).mono ?_; rintro e wb ⟨oa2, oc2, rfl, hin, hb⟩; have PT := Lib.hid (PT.out.later hb); have IA := Lib.hid (IA.out.below hb); have IB := Lib.hid hin.row; clear hb hin)
            | (go_at_call 14; refine (SI.out _ _ IAL.out _ _ _ _ IA.out IB.out).mono ?_; rintro e wc ⟨rfl, hb⟩; have PT := Lib.hid (PT.out.later hb); clear hb)
            | (go_at_call 21; refine (BA.out _ _ PT.out.a).mono ?_; rintro e wd ⟨rfl, hb⟩; have PT := Lib.hid (PT.out.later hb); clear hb)
            | (go_at_call 22; refine (BB.out _ _ PT.out.b).mono ?_; rintro e we ⟨rfl, hb⟩; have PT := Lib.hid (PT.out.later hb); clear hb))
          exact ⟨⟨k + 1, by go_num, HLT.out, ⟨_, _, m, PT.out, OM.out, NM.out⟩⟩, by simp [intOf]; have := HLT.out; omega⟩
        have k6 : decide (kd = 6) = false := decide_eq_false h6
        by_cases h7 : kd = 7
        · subst h7
          have HHA := Lib.hid (fun F wx (hx : FX wx F b1 most room ops) => fheldX b1 most room ops id F wx hx)
          have HHB := Lib.hid (fun G wx (hx : RX wx G b2 most room ops) => rheldX b2 most room ops id G wx hx (by have := HOK.out.few; have := (limB_spec HLM.out).2.1; omega))
          obtain ⟨t, ht⟩ : ∃ t, held ops id = t := ⟨_, rfl⟩
          rw [ht] at HHA HHB
          obtain ⟨tb, tn, te⟩ := t
          unfold HeldP at HHA HHB
          simp only at HHA HHB
          obtain ⟨m, hm⟩ : ∃ m, ops = m := ⟨_, rfl⟩
          subst hm
          have OM := HOK
          have NM := HNUM
          clear ht
          have hl1 : ops.length ≤ 100 := by have := OM.out.few; have := (limB_spec HLM.out).2.1; omega
          have OA := Lib.hid fun wx F (hx : FX wx F b1 most room ops) => fopenX b1 most room ops F wx hx hl1
          have OB := Lib.hid fun wx G (hx : RX wx G b2 most room ops) => ropenX b2 most room ops G wx hx hl1
          have BA := Lib.hid fun wx F (hx : FX wx F b1 most room ops) => fbytesX b1 most room ops F wx hx
          have BB := Lib.hid fun wx G (hx : RX wx G b2 most room ops) => rbytesX b2 most room ops G wx hx hl1 OM.out.body
          have HLm : Hid ((sortI (idsO ops)).length ≤ 100000) := Lib.hid (by rw [sortI_len]; unfold idsO; rw [List.length_map]; omega)
          clear hl1
          go_wp2_with (first
            | (go_at_call 12; refine (HHA.out _ _ PT.out.a).mono ?_; rintro e w4 ⟨rfl, hb⟩; have PT := Lib.hid (PT.out.later hb); have a1 := (hb.cell (p := ⟨wr.heap.size, 1, none⟩) (by simp)).trans a1; clear hb)
            | (go_at_call 13; refine (HHB.out _ _ PT.out.b).mono ?_; rintro e w5 ⟨rfl, hb⟩; have PT := Lib.hid (PT.out.later hb); clear hb)
            | (go_at_call 19; refine (OA.out _ _ PT.out.a).mono ?_; rintro e wa ⟨oa1, oc1, rfl, hin, hb⟩; have PT := Lib.hid (PT.out.later hb); have IA := Lib.hid hin.row; have IAL := HLm; clear hb hin)
            | (go_at_call 20; refine (OB.out _ _ PT.out.b).mono ?_; rintro e wb ⟨oa2, oc2, rfl, hin, hb⟩; have PT := Lib.hid (PT.out.later hb); have IA := Lib.hid (IA.out.below hb); have IB := Lib.hid hin.row; clear hb hin)
            | (go_at_call 14; refine (SI.out _ _ IAL.out _ _ _ _ IA.out IB.out).mono ?_; rintro e wc ⟨rfl, hb⟩; have PT := Lib.hid (PT.out.later hb); clear hb)
            | (go_at_call 21; refine (BA.out _ _ PT.out.a).mono ?_; rintro e wd ⟨rfl, hb⟩; have PT := Lib.hid (PT.out.later hb); clear hb)
            | (go_at_call 22; refine (BB.out _ _ PT.out.b).mono ?_; rintro e we ⟨rfl, hb⟩; have PT := Lib.hid (PT.out.later hb); clear hb))
          exact ⟨⟨k + 1, by go_num, HLT.out, ⟨_, _, ops, PT.out, OM.out, NM.out⟩⟩, by simp [intOf]; have := HLT.out; omega⟩
        have k7 : decide (kd = 7) = false := decide_eq_false h7
        by_cases h8 : kd = 8
        · subst h8
          have HCE := Lib.hid (fun F wx (hx : FX wx F b1 most room ops) => fclearX b1 most room ops F wx hx HOK.out HLM.out HNUM.out)
          have HCR := Lib.hid (fun G wx (hx : RX wx G b2 most room ops) => rclearX b2 most room ops G wx hx (by have := HOK.out.few; have := (limB_spec HLM.out).2.1; omega))
          have HLo : Hid ((sortI (idsO ops)).length ≤ 100000) := Lib.hid (by rw [sortI_len]; unfold idsO; rw [List.length_map]; have := HOK.out.few; have := (limB_spec HLM.out).2.1; omega)
          have OM : Hid (OpsOk most []) := Lib.hid (by have := (limB_spec HLM.out).1; exact ⟨by simp; omega, fun x hx => by simp at hx, fun x hx => by simp at hx⟩)
          have NM : Hid (numsO []) := Lib.hid (fun x hx => by simp at hx)
          have HCP := Lib.hid hcp
          obtain ⟨m, hm⟩ : ∃ m : List Op, m = [] := ⟨_, rfl⟩
          rw [← hm] at OM NM
          unfold ClearX at HCE HCR
          rw [← hm] at HCE HCR
          clear hm
          have hl1 : m.length ≤ 100 := by have := OM.out.few; have := (limB_spec HLM.out).2.1; omega
          have OA := Lib.hid fun wx F (hx : FX wx F b1 most room m) => fopenX b1 most room m F wx hx hl1
          have OB := Lib.hid fun wx G (hx : RX wx G b2 most room m) => ropenX b2 most room m G wx hx hl1
          have BA := Lib.hid fun wx F (hx : FX wx F b1 most room m) => fbytesX b1 most room m F wx hx
          have BB := Lib.hid fun wx G (hx : RX wx G b2 most room m) => rbytesX b2 most room m G wx hx hl1 OM.out.body
          have HLm : Hid ((sortI (idsO m)).length ≤ 100000) := Lib.hid (by rw [sortI_len]; unfold idsO; rw [List.length_map]; omega)
          clear hl1
          go_wp2_with (first
            | (go_at_call 15; refine (HCE.out _ _ PT.out.a).mono ?_; rintro e w4 ⟨oa3, oc3, rfl, hin, hs⟩; have hp4 := PT.out.stepA hs; have hlt4 := rx.few PT.out.b; clear PT; obtain ⟨F4, hp4⟩ := hp4; have PT := Lib.hid hp4; have IA := Lib.hid hin.row; have IN := Lib.hid (And.intro hin hlt4); have IAL := HLo; clear hs hp4 hin hlt4)
            | (go_at_call 16; refine (HCR.out _ _ PT.out.b).mono ?_; rintro e w5 ⟨oa4, oc4, rfl, hin, hs⟩; have IA := Lib.hid (IntNew.step IN.out.1 hs IN.out.2).row; have hp5 := PT.out.stepB hs; clear PT; obtain ⟨G5, hp5⟩ := hp5; have PT := Lib.hid hp5; have IB := Lib.hid hin.row; clear hs hp5 hin)
            | (go_at_call 19; refine (OA.out _ _ PT.out.a).mono ?_; rintro e wa ⟨oa1, oc1, rfl, hin, hb⟩; have PT := Lib.hid (PT.out.later hb); have IA := Lib.hid hin.row; have IAL := HLm; clear hb hin)
            | (go_at_call 20; refine (OB.out _ _ PT.out.b).mono ?_; rintro e wb ⟨oa2, oc2, rfl, hin, hb⟩; have PT := Lib.hid (PT.out.later hb); have IA := Lib.hid (IA.out.below hb); have IB := Lib.hid hin.row; clear hb hin)
            | (go_at_call 14; refine (SI.out _ _ IAL.out _ _ _ _ IA.out IB.out).mono ?_; rintro e wc ⟨rfl, hb⟩; have PT := Lib.hid (PT.out.later hb); clear hb)
            | (go_at_call 21; refine (BA.out _ _ PT.out.a).mono ?_; rintro e wd ⟨rfl, hb⟩; have PT := Lib.hid (PT.out.later hb); clear hb)
            | (go_at_call 22; refine (BB.out _ _ PT.out.b).mono ?_; rintro e we ⟨rfl, hb⟩; have PT := Lib.hid (PT.out.later hb); clear hb))
          exact ⟨⟨k + 1, by go_num, HLT.out, ⟨_, _, m, PT.out, OM.out, NM.out⟩⟩, by simp [intOf]; have := HLT.out; omega⟩
        have k8 : decide (kd = 8) = false := decide_eq_false h8
        have hwk : IntKind.i64.wrap ((k : Int) + 1) = (k : Int) + 1 := IntWalk.i64_in _ (by omega)
        clear hk2
        have TA := Lib.hid (fun F wx (hx : FX wx F b1 most room ops) => ftakeX b1 most room ops pi pl mo bd F wx hx HOK.out HLM.out)
        have TB := Lib.hid (fun G wx (hx : RX wx G b2 most room ops) => rtakeX b2 most room ops pi pl mo bd G wx hx HOK.out HLM.out)
        have OM := Lib.hid (HOK.out.took (room := room) ⟨pi, pl, mo, bd⟩)
        have NM := Lib.hid (HNUM.out.took (most := most) (room := room) ⟨pi, pl, mo, bd⟩)
        obtain ⟨t, ht⟩ : ∃ t, took most room ops ⟨pi, pl, mo, bd⟩ = t := ⟨_, rfl⟩
        rw [ht] at TA TB OM NM
        obtain ⟨m, tb, tw, te⟩ := t
        unfold TakeX at TA TB
        simp only at TA TB OM NM
        clear ht
        have hl1 : m.length ≤ 100 := by have := OM.out.few; have := (limB_spec HLM.out).2.1; omega
        have OA := Lib.hid fun wx F (hx : FX wx F b1 most room m) => fopenX b1 most room m F wx hx hl1
        have OB := Lib.hid fun wx G (hx : RX wx G b2 most room m) => ropenX b2 most room m G wx hx hl1
        have BA := Lib.hid fun wx F (hx : FX wx F b1 most room m) => fbytesX b1 most room m F wx hx
        have BB := Lib.hid fun wx G (hx : RX wx G b2 most room m) => rbytesX b2 most room m G wx hx hl1 OM.out.body
        have HLm : Hid ((sortI (idsO m)).length ≤ 100000) := Lib.hid (by rw [sortI_len]; unfold idsO; rw [List.length_map]; omega)
        clear hl1
        cases tw
        all_goals
          go_wp2_with (first
            | (go_at_call 17; refine (TA.out _ _ PT.out.a).mono ?_; rintro e w4 ⟨rfl, hs⟩; have hA4 := step_keeps hs (heap_alloc_new wr _) (fun g => (by have := HFW.out _ g; omega)); have y2 := cells_at hA4 2; have y3 := cells_at hA4 3; have y4 := cells_at hA4 4; have y5 := cells_at hA4 5; have hp4 := PT.out.stepA hs; clear PT; obtain ⟨F4, hp4⟩ := hp4; have PT := Lib.hid hp4; clear hs hp4 hA4)
            | (go_at_call 18; refine (TB.out _ _ PT.out.b).mono ?_; rintro e w5 ⟨rfl, hs⟩; have hp5 := PT.out.stepB hs; clear PT; obtain ⟨G5, hp5⟩ := hp5; have PT := Lib.hid hp5; clear hs hp5)
            | (go_at_call 19; refine (OA.out _ _ PT.out.a).mono ?_; rintro e wa ⟨oa1, oc1, rfl, hin, hb⟩; have PT := Lib.hid (PT.out.later hb); have IA := Lib.hid hin.row; have IAL := HLm; clear hb hin)
            | (go_at_call 20; refine (OB.out _ _ PT.out.b).mono ?_; rintro e wb ⟨oa2, oc2, rfl, hin, hb⟩; have PT := Lib.hid (PT.out.later hb); have IA := Lib.hid (IA.out.below hb); have IB := Lib.hid hin.row; clear hb hin)
            | (go_at_call 14; refine (SI.out _ _ IAL.out _ _ _ _ IA.out IB.out).mono ?_; rintro e wc ⟨rfl, hb⟩; have PT := Lib.hid (PT.out.later hb); clear hb)
            | (go_at_call 21; refine (BA.out _ _ PT.out.a).mono ?_; rintro e wd ⟨rfl, hb⟩; have PT := Lib.hid (PT.out.later hb); clear hb)
            | (go_at_call 22; refine (BB.out _ _ PT.out.b).mono ?_; rintro e we ⟨rfl, hb⟩; have PT := Lib.hid (PT.out.later hb); clear hb))
          exact ⟨⟨k + 1, by go_num, HLT.out, ⟨_, _, m, PT.out, OM.out, NM.out⟩⟩, by simp [intOf]; have := HLT.out; omega⟩

end Go.Proofs.Yteblbpdpfegooaa
