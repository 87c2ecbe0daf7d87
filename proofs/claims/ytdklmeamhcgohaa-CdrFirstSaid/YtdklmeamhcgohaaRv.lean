/-
  PROVED HERE: the law CdrReads returns true for acts that lie in memory, whatever their number, each text of at most 2^47 - 4096 bytes.
-/
import Derived.Test.YtdklmeamhcgohaaRu
namespace Go.Proofs.Ytdklmeamhcgohaa
open Go.RowKit

set_option maxRecDepth 100000 in
set_option maxHeartbeats 4000000 in
theorem walk4_wide (s : ByteArray) (big : Bool) (at' : Int) (b off cap : Nat) (l : List ActD) (w : World) (h : ActsAt w b off l) (hb : b < w.heap.size) (hl : l.length ≤ maxLen) (hs : ∀ i (h : i < l.length), l[i].s.size ≤ 140737488351232) (hsz : s.size ≤ 140737488351232) :
    Calls Try.prog 4 #[.string s, .bool big, .int .i64 at', .slice (some ⟨b, off, none⟩) l.length cap] w fun e w' => e = .returned (.bool true) ∧ Below w.heap.size w w' := by
  have LG := Lib.hid (light_wide b off cap l w h hb hl hs)
  clear hl hs
  obtain ⟨r, hr⟩ : ∃ r, (decide (l.length ≤ 60) && decide (totTo l l.length ≤ 300000)) = r := ⟨_, rfl⟩
  rw [hr] at LG
  cases r
  · clear hr h
    go_enter Try.func4, Try.ntmps4
    go_wp2_with (first | (go_at_call 9; refine LG.out.mono ?_; rintro e w1 ⟨rfl, hb1⟩; have B1 := Lib.hid hb1; clear hb1) | (go_at_call 10; refine (awake_any _).mono ?_; rintro e w2 ⟨rfl, hb2⟩; have B2 := Lib.hid hb2; clear hb2))
    go_ret
    exact ⟨rfl, B1.out.trans (B2.out.mono B1.out.size)⟩
  · simp only [Bool.and_eq_true, decide_eq_true_eq] at hr
    obtain ⟨hr1, hr2⟩ := hr
    by_cases h2000 : s.size ≤ 2000
    · have d0 : decide ((2000 : Int) < s.size) = false := by simp; omega
      have H := Lib.hid h
      have hat := atN_bd at'
      obtain ⟨a, hav⟩ : ∃ a, atN at' = a := ⟨_, rfl⟩
      rw [hav] at hat
      obtain ⟨ha, ha2⟩ := hat
      have HA := Lib.hid hav
      have hs : s.size ≤ 1000000 := by omega
      clear hav h hsz
      go_enter Try.func4, Try.ntmps4
      go_wp2_with (first | (go_at_call 9; refine LG.out.mono ?_; rintro e w1 ⟨rfl, hb1⟩; have B1 := Lib.hid hb1; clear hb1) | (go_at_call 21; refine (newReader_any _ _ _ _).mono ?_; rintro e w2 ⟨b1, rfl, hb2, hw2, hbe2⟩) | (go_at_call 22; refine (rnewReader_any _ _ _ _).mono ?_; rintro e w3 ⟨b2, rfl, hb3, hw3, hbe3⟩))
      rw [HA.out] at hw2 hw3
      have P0 : PairR w w3 b1 b2 big a s 0 false :=
        ⟨hw2.below hbe3 hw2.lt, hw3, by have := hw2.lt; omega, Nat.le_trans B1.out.size hb2, Nat.le_trans (Nat.le_trans B1.out.size hbe2.size) hb3, (B1.out.trans (hbe2.mono B1.out.size)).trans (hbe3.mono (Nat.le_trans B1.out.size hbe2.size))⟩
      have HP0 := Lib.hid P0
      clear P0 hw2 hw3 hb2 hb3 hbe2 hbe3
      go_loopw [35] (fun v wr => ∃ (k i : Nat) (wr0 : Bool), v = .int .i64 k ∧ k ≤ l.length ∧ i ≤ s.size ∧ PairR w wr b1 b2 big a s i wr0) (fun v _ => l.length - (intOf v).toNat)
      case atStart => exact ⟨0, 0, false, rfl, Nat.zero_le _, Nat.zero_le _, HP0.out⟩
      case round =>
        obtain ⟨k, i, wr0, rfl, hk, hpi, hp⟩ := hrel
        have HP := Lib.hid hp
        clear hp
        by_cases hlt : k < l.length
        · obtain ⟨c0, c1, c2, c3⟩ := (H.out.below HP.out.below hb) k hlt
          generalize l[k].s = t at c3
          generalize l[k].k = kk at c0
          generalize l[k].n = nn at c1
          generalize l[k].m = mm at c2
          obtain ⟨R, hR⟩ : ∃ R, rdA s big a kk nn i wr0 = R := ⟨_, rfl⟩
          have hRb := rdA_bd s big a kk nn i wr0 hpi
          rw [hR] at hRb
          have RA := Lib.hid (fun W hW => read_any b1 big a s i wr0 kk nn mm t W hW ha ha2 hs hpi)
          have AA := Lib.hid (fun W hW => answered_any b2 big a s i wr0 kk nn mm t W hW ha ha2 hs hpi)
          rw [hR] at RA AA
          obtain ⟨Rn, Rt, Re, Ri, Rw⟩ := R
          unfold actV toldV at RA AA
          dsimp only at RA AA hRb
          clear hR
          go_wp2_with fail
          obtain ⟨g, hg⟩ : ∃ g, wr.heap.size = g := ⟨_, rfl⟩
          have hga := heap_alloc_new wr (Obj.cells #[Value.int IntKind.i64 kk, Value.int IntKind.i64 nn, Value.int IntKind.i64 mm, Value.string t] 30)
          have hpa := HP.out.later (W' := wr.alloc (Obj.cells #[Value.int IntKind.i64 kk, Value.int IntKind.i64 nn, Value.int IntKind.i64 mm, Value.string t] 30)) ((Below.refl _ _).alloc (Nat.le_refl _) _)
          have hg1 : g ≠ b1 := by have := HP.out.pa.lt; omega
          have hg2 : g ≠ b2 := by have := HP.out.pb.lt; omega
          generalize wr.alloc (Obj.cells #[Value.int IntKind.i64 kk, Value.int IntKind.i64 nn, Value.int IntKind.i64 mm, Value.string t] 30) = wx at hga hpa
          rw [hg] at hga
          rw [hg]
          clear hg c0 c1 c2 c3
          have hpd := hpa.later (below_drew wx)
          have hgd : wx.drew.heap[g]? = some (actO kk nn mm t) := hga
          clear hga hpa
          have hS : ActAt wx.drew g kk nn mm t := ActAt.of hgd
          refine wp_region_held_drew (S := fun W => ActAt W g kk nn mm t) (by kernel_rfl) hS (fun _ => ?_)
          refine takeT (i := 0) (d := 39) (v := .pointer (some ⟨b1, 0, none⟩)) rfl rfl (by kernel_rfl) (by kernel_rfl) (by kernel_rfl) (fun _ _ _ h => h) (by rfl) (by (rintro w ⟨p0, p1, p2, p3⟩; go_simp)) hS ?_
          simp only [List.setIfInBounds_toArray, List.set_cons_zero, List.set_cons_succ]
          refine takeT (i := 1) (d := 40) (v := .agg #[.int .i64 kk, .int .i64 nn, .int .i64 mm, .string t]) rfl rfl (by kernel_rfl) (by kernel_rfl) (by kernel_rfl) (fun _ _ _ h => h) (by rfl) (by (rintro w ⟨p0, p1, p2, p3⟩; go_simp)) hS ?_
          simp only [List.setIfInBounds_toArray, List.set_cons_zero, List.set_cons_succ]
          refine takeT (i := 3) (d := 42) (v := .pointer (some ⟨b2, 0, none⟩)) rfl rfl (by kernel_rfl) (by kernel_rfl) (by kernel_rfl) (fun _ _ _ h => h) (by rfl) (by (rintro w ⟨p0, p1, p2, p3⟩; go_simp)) hS ?_
          simp only [List.setIfInBounds_toArray, List.set_cons_zero, List.set_cons_succ]
          refine takeT (i := 4) (d := 43) (v := .agg #[.int .i64 kk, .int .i64 nn, .int .i64 mm, .string t]) rfl rfl (by kernel_rfl) (by kernel_rfl) (by kernel_rfl) (fun _ _ _ h => h) (by rfl) (by (rintro w ⟨p0, p1, p2, p3⟩; go_simp)) hS ?_
          simp only [List.setIfInBounds_toArray, List.set_cons_zero, List.set_cons_succ]
          refine wpAnyH_ready (rs := [2]) (by kernel_rfl) (by simp) ?_
          refine AllReadyH.cons rfl (fun K hK => ?_) AllReadyH.nil
          rw [if_pos (by rfl)]
          go_simp
          refine (RA.out _ hpd.pa).mono ?_
          rintro e w4 ⟨rfl, h4⟩
          have hpb4 := hpd.second h4
          have hg4 : w4.heap[g]? = some (actO kk nn mm t) := (h4.2.block g (Array.getElem?_eq_some_iff.1 hgd).1 (by simp; exact hg1)).trans hgd
          have hS4 : ActAt w4 g kk nn mm t := ActAt.of hg4
          refine hK.out _ _ hS4 (fun _ => ?_)
          clear hK K
          refine wpAnyH_ready (rs := [5]) (by kernel_rfl) (by simp) ?_
          refine AllReadyH.cons rfl (fun K hK => ?_) AllReadyH.nil
          rw [if_pos (by rfl)]
          go_simp
          refine (AA.out _ hpb4).mono ?_
          rintro e w5 ⟨rfl, h5⟩
          have hp5 := hpd.both h4 h5
          have hg5 : w5.heap[g]? = some (actO kk nn mm t) := (h5.2.block g (Array.getElem?_eq_some_iff.1 hg4).1 (by simp; exact hg2)).trans hg4
          have hS5 : ActAt w5 g kk nn mm t := ActAt.of hg5
          dsimp only at hp5
          refine hK.out _ _ hS5 (fun _ => ?_)
          clear hK K
          refine takeT (i := 6) (d := 45) (v := .bool false) rfl rfl (by kernel_rfl) (by kernel_rfl) (by kernel_rfl) (fun _ _ _ h => h) (by rfl) (by (rintro w ⟨p0, p1, p2, p3⟩; go_simp)) hS5 ?_
          simp only [List.setIfInBounds_toArray, List.set_cons_zero, List.set_cons_succ]
          refine takeT (i := 7) (d := 46) (v := .bool false) rfl rfl (by kernel_rfl) (by kernel_rfl) (by kernel_rfl) (fun _ _ _ h => h) (by rfl) (by (rintro w ⟨p0, p1, p2, p3⟩; go_simp)) hS5 ?_
          simp only [List.setIfInBounds_toArray, List.set_cons_zero, List.set_cons_succ]
          refine takeT (i := 8) (d := 47) (v := .pointer (some ⟨b1, 0, none⟩)) rfl rfl (by kernel_rfl) (by kernel_rfl) (by kernel_rfl) (fun _ _ _ h => h) (by rfl) (by (rintro w ⟨p0, p1, p2, p3⟩; go_simp)) hS5 ?_
          simp only [List.setIfInBounds_toArray, List.set_cons_zero, List.set_cons_succ]
          refine takeT (i := 10) (d := 49) (v := .pointer (some ⟨b2, 0, none⟩)) rfl rfl (by kernel_rfl) (by kernel_rfl) (by kernel_rfl) (fun _ _ _ h => h) (by rfl) (by (rintro w ⟨p0, p1, p2, p3⟩; go_simp)) hS5 ?_
          simp only [List.setIfInBounds_toArray, List.set_cons_zero, List.set_cons_succ]
          refine wpAnyH_ready (rs := [9]) (by kernel_rfl) (by simp) ?_
          refine AllReadyH.cons rfl (fun K hK => ?_) AllReadyH.nil
          rw [if_pos (by rfl)]
          go_simp
          refine (cplace_any b1 big a s Ri Rw _ hp5.pa ha ha2 (by omega)).mono ?_
          rintro e w9 ⟨rfl, q9, rfl⟩
          have hp9 := hp5.later (below_drewN' w5 (q9))
          have hS9 : ActAt ((w5).drewN q9) g kk nn mm t := ActAt.of hg5
          refine hK.out _ _ hS9 (fun _ => ?_)
          clear hK K
          refine wpAnyH_ready (rs := [11]) (by kernel_rfl) (by simp) ?_
          refine AllReadyH.cons rfl (fun K hK => ?_) AllReadyH.nil
          rw [if_pos (by rfl)]
          go_simp
          refine (rdplace_any b2 big a s Ri Rw _ hp9.pb ha ha2 (by omega)).mono ?_
          rintro e w11 ⟨rfl, q11, rfl⟩
          have hp11 := hp5.later (below_drewN' w5 (q9 + q11))
          have hS11 : ActAt ((w5.drewN q9).drewN q11) g kk nn mm t := ActAt.of hg5
          refine hK.out _ _ hS11 (fun _ => ?_)
          clear hK K
          refine takeT (i := 12) (d := 51) (v := .bool false) rfl rfl (by kernel_rfl) (by kernel_rfl) (by kernel_rfl) (fun _ _ _ h => h) (by rfl) (by (rintro w ⟨p0, p1, p2, p3⟩; go_simp)) hS11 ?_
          simp only [List.setIfInBounds_toArray, List.set_cons_zero, List.set_cons_succ]
          refine takeT (i := 13) (d := 52) (v := .bool false) rfl rfl (by kernel_rfl) (by kernel_rfl) (by kernel_rfl) (fun _ _ _ h => h) (by rfl) (by (rintro w ⟨p0, p1, p2, p3⟩; go_simp)) hS11 ?_
          simp only [List.setIfInBounds_toArray, List.set_cons_zero, List.set_cons_succ]
          refine takeT (i := 14) (d := 53) (v := .bool false) rfl rfl (by kernel_rfl) (by kernel_rfl) (by kernel_rfl) (fun _ _ _ h => h) (by rfl) (by (rintro w ⟨p0, p1, p2, p3⟩; go_simp)) hS11 ?_
          simp only [List.setIfInBounds_toArray, List.set_cons_zero, List.set_cons_succ]
          refine takeT (i := 15) (d := 54) (v := .pointer (some ⟨b1, 0, none⟩)) rfl rfl (by kernel_rfl) (by kernel_rfl) (by kernel_rfl) (fun _ _ _ h => h) (by rfl) (by (rintro w ⟨p0, p1, p2, p3⟩; go_simp)) hS11 ?_
          simp only [List.setIfInBounds_toArray, List.set_cons_zero, List.set_cons_succ]
          refine takeT (i := 17) (d := 56) (v := .pointer (some ⟨b2, 0, none⟩)) rfl rfl (by kernel_rfl) (by kernel_rfl) (by kernel_rfl) (fun _ _ _ h => h) (by rfl) (by (rintro w ⟨p0, p1, p2, p3⟩; go_simp)) hS11 ?_
          simp only [List.setIfInBounds_toArray, List.set_cons_zero, List.set_cons_succ]
          refine wpAnyH_ready (rs := [16]) (by kernel_rfl) (by simp) ?_
          refine AllReadyH.cons rfl (fun K hK => ?_) AllReadyH.nil
          rw [if_pos (by rfl)]
          go_simp
          refine (cleft_any b1 big a s Ri Rw _ hp11.pa (by omega) (by omega)).mono ?_
          rintro e w16 ⟨rfl, q16, rfl⟩
          have hp16 := hp5.later (below_drewN' w5 (q9 + q11 + q16))
          have hS16 : ActAt ((w5.drewN (q9 + q11)).drewN q16) g kk nn mm t := ActAt.of hg5
          refine hK.out _ _ hS16 (fun _ => ?_)
          clear hK K
          refine wpAnyH_ready (rs := [18]) (by kernel_rfl) (by simp) ?_
          refine AllReadyH.cons rfl (fun K hK => ?_) AllReadyH.nil
          rw [if_pos (by rfl)]
          go_simp
          refine (rdleft_any b2 big a s Ri Rw _ hp16.pb (by omega) (by omega)).mono ?_
          rintro e w18 ⟨rfl, q18, rfl⟩
          have hp18 := hp5.later (below_drewN' w5 (q9 + q11 + q16 + q18))
          have hS18 : ActAt ((w5.drewN (q9 + q11 + q16)).drewN q18) g kk nn mm t := ActAt.of hg5
          refine hK.out _ _ hS18 (fun _ => ?_)
          clear hK K
          refine takeT (i := 19) (d := 58) (v := .bool false) rfl rfl (by kernel_rfl) (by kernel_rfl) (by kernel_rfl) (fun _ _ _ h => h) (by rfl) (by (rintro w ⟨p0, p1, p2, p3⟩; go_simp)) hS18 ?_
          simp only [List.setIfInBounds_toArray, List.set_cons_zero, List.set_cons_succ]
          refine takeT (i := 20) (d := 59) (v := .bool false) rfl rfl (by kernel_rfl) (by kernel_rfl) (by kernel_rfl) (fun _ _ _ h => h) (by rfl) (by (rintro w ⟨p0, p1, p2, p3⟩; go_simp)) hS18 ?_
          simp only [List.setIfInBounds_toArray, List.set_cons_zero, List.set_cons_succ]
          refine takeT (i := 21) (d := 60) (v := .bool false) rfl rfl (by kernel_rfl) (by kernel_rfl) (by kernel_rfl) (fun _ _ _ h => h) (by rfl) (by (rintro w ⟨p0, p1, p2, p3⟩; go_simp)) hS18 ?_
          simp only [List.setIfInBounds_toArray, List.set_cons_zero, List.set_cons_succ]
          refine takeT (i := 22) (d := 61) (v := .pointer (some ⟨b1, 0, none⟩)) rfl rfl (by kernel_rfl) (by kernel_rfl) (by kernel_rfl) (fun _ _ _ h => h) (by rfl) (by (rintro w ⟨p0, p1, p2, p3⟩; go_simp)) hS18 ?_
          simp only [List.setIfInBounds_toArray, List.set_cons_zero, List.set_cons_succ]
          refine takeT (i := 24) (d := 63) (v := .pointer (some ⟨b2, 0, none⟩)) rfl rfl (by kernel_rfl) (by kernel_rfl) (by kernel_rfl) (fun _ _ _ h => h) (by rfl) (by (rintro w ⟨p0, p1, p2, p3⟩; go_simp)) hS18 ?_
          simp only [List.setIfInBounds_toArray, List.set_cons_zero, List.set_cons_succ]
          refine wpAnyH_ready (rs := [23]) (by kernel_rfl) (by simp) ?_
          refine AllReadyH.cons rfl (fun K hK => ?_) AllReadyH.nil
          rw [if_pos (by rfl)]
          go_simp
          refine (cbad_any b1 big a s Ri Rw _ hp18.pa ha ha2 (by omega)).mono ?_
          rintro e w23 ⟨rfl, q23, rfl⟩
          have hp23 := hp5.later (below_drewN' w5 (q9 + q11 + q16 + q18 + q23))
          have hS23 : ActAt ((w5.drewN (q9 + q11 + q16 + q18)).drewN q23) g kk nn mm t := ActAt.of hg5
          refine hK.out _ _ hS23 (fun _ => ?_)
          clear hK K
          refine wpAnyH_ready (rs := [25]) (by kernel_rfl) (by simp) ?_
          refine AllReadyH.cons rfl (fun K hK => ?_) AllReadyH.nil
          rw [if_pos (by rfl)]
          go_simp
          refine (rdbad_any b2 big a s Ri Rw _ hp23.pb).mono ?_
          rintro e w25 ⟨rfl, rfl⟩
          have hS25 : ActAt (w5.drewN (q9 + q11 + q16 + q18 + q23)) g kk nn mm t := ActAt.of hg5
          refine hK.out _ _ hS25 (fun _ => ?_)
          clear hK K
          refine takeT (i := 26) (d := 65) (v := .bool false) rfl rfl (by kernel_rfl) (by kernel_rfl) (by kernel_rfl) (fun _ _ _ h => h) (by rfl) (by (rintro w ⟨p0, p1, p2, p3⟩; go_simp)) hS25 ?_
          simp only [List.setIfInBounds_toArray, List.set_cons_zero, List.set_cons_succ]
          refine takeT (i := 27) (d := 66) (v := .bool false) rfl rfl (by kernel_rfl) (by kernel_rfl) (by kernel_rfl) (fun _ _ _ h => h) (by rfl) (by (rintro w ⟨p0, p1, p2, p3⟩; go_simp)) hS25 ?_
          simp only [List.setIfInBounds_toArray, List.set_cons_zero, List.set_cons_succ]
          refine wpAnyH_done (by kernel_rfl) ?_ _
          have HPZ := Lib.hid hp23
          clear hS hS4 hS5 hS9 hS11 hS16 hS18 hS23 hS25 hgd hg4 hg5 hpd hp5 hp9 hp11 hp16 hp18 hp23 h4 h5 hpb4 hg1 hg2
          go_wp2_with fail
          exact ⟨⟨k + 1, Ri, Rw, by go_num, hlt, hRb, HPZ.out⟩, by simp [intOf]; omega⟩
        · obtain rfl : k = l.length := by omega
          go_wp2_with (first | (go_at_call 31; refine (ctext_nil _).mono ?_; rintro e w4 ⟨rfl, hb4⟩; have B4 := Lib.hid hb4; clear hb4) | (go_at_call 32; refine (calign_nil _ _).mono ?_; rintro e w5 ⟨rfl, rfl⟩) | (go_at_call 29; refine (cbad_nil _).mono ?_; rintro e w6 ⟨rfl, rfl⟩) | (go_at_call 27; refine (cleft_nil _).mono ?_; rintro e w7 ⟨rfl, rfl⟩) | (go_at_call 10; refine (awake_any _).mono ?_; rintro e w9 ⟨rfl, hb9⟩; have B9 := Lib.hid hb9; clear hb9))
          go_ret
          have b1' := HP.out.below
          have b2' := b1'.trans (B4.out.mono b1'.size)
          exact ⟨rfl, b2'.trans (B9.out.mono b2'.size)⟩
    · have d0 : decide ((2000 : Int) < s.size) = true := by simp; omega
      clear h
      go_enter Try.func4, Try.ntmps4
      go_wp2_with (first | (go_at_call 9; refine LG.out.mono ?_; rintro e w1 ⟨rfl, hb1⟩; have B1 := Lib.hid hb1; clear hb1) | (go_at_call 10; refine (awake_any _).mono ?_; rintro e w2 ⟨rfl, hb2⟩; have B2 := Lib.hid hb2; clear hb2))
      go_ret
      exact ⟨rfl, B1.out.trans (B2.out.mono B1.out.size)⟩

end Go.Proofs.Ytdklmeamhcgohaa
