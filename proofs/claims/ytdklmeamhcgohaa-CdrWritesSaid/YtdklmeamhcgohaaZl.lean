/-
  PROVED HERE: the law CdrWrites returns true for acts that lie in memory, whatever their number, each text of at most 2^47 - 4096 bytes.
-/
import Derived.Test.YtdklmeamhcgohaaZk
namespace Go.Proofs.Ytdklmeamhcgohaa
open Go.RowKit

set_option maxRecDepth 100000 in
set_option maxHeartbeats 4000000 in
theorem walk3_wide (big : Bool) (at' : Int) (b off cap : Nat) (l : List ActD) (w : World) (h : ActsAt w b off l) (hb : b < w.heap.size) (hl : l.length ≤ maxLen) (hs : ∀ i (h : i < l.length), l[i].s.size ≤ 140737488351232) :
    Calls Try.prog 3 #[.bool big, .int .i64 at', .slice (some ⟨b, off, none⟩) l.length cap] w fun e w' => e = .returned (.bool true) ∧ Below w.heap.size w w' := by
  have LG := Lib.hid (light_wide b off cap l w h hb hl hs)
  clear hl hs
  obtain ⟨r, hr⟩ : ∃ r, (decide (l.length ≤ 60) && decide (totTo l l.length ≤ 300000)) = r := ⟨_, rfl⟩
  rw [hr] at LG
  cases r
  · clear hr h
    go_enter Try.func3, Try.ntmps3
    go_wp2_with (first | (go_at_call 9; refine LG.out.mono ?_; rintro e w1 ⟨rfl, hb1⟩; have B1 := Lib.hid hb1; clear hb1) | (go_at_call 10; refine (awake_any _).mono ?_; rintro e w2 ⟨rfl, hb2⟩; have B2 := Lib.hid hb2; clear hb2))
    go_ret
    exact ⟨rfl, B1.out.trans (B2.out.mono B1.out.size)⟩
  · simp only [Bool.and_eq_true, decide_eq_true_eq] at hr
    obtain ⟨hr1, hr2⟩ := hr
    have H := Lib.hid h
    have hat := atN_bd at'
    obtain ⟨a, hav⟩ : ∃ a, atN at' = a := ⟨_, rfl⟩
    rw [hav] at hat
    obtain ⟨ha, ha2⟩ := hat
    have HA := Lib.hid hav
    clear hav h
    go_enter Try.func3, Try.ntmps3
    go_wp2_with (first | (go_at_call 9; refine LG.out.mono ?_; rintro e w1 ⟨rfl, hb1⟩; have B1 := Lib.hid hb1; clear hb1) | (go_at_call 11; refine (newWriter_any _ _ _).mono ?_; rintro e w2 ⟨b1, rfl, hb2, hw2, hbe2⟩) | (go_at_call 12; refine (rnew_any _ _ _).mono ?_; rintro e w3 ⟨b2, rfl, hb3, hw3, hbe3⟩))
    rw [HA.out] at hw2 hw3
    have P0 : PairW w w3 b1 (.slice none 0 0) [] b2 (.slice none 0 0) [] big a := by
      have m1 := NewW.made (W0 := w) hw2 (Nat.le_trans B1.out.size hb2) (B1.out.trans (hbe2.mono B1.out.size))
      exact ⟨m1.holds.older hbe3 (Nat.le_refl _), ⟨hw3, World.ownsRow_nil _ 0 5 1⟩, by have := m1.holds.1.lt; omega, by simp [Value.ownBlock], m1.lo, Nat.le_trans m1.below.size hb3, m1.own, by simp [Value.ownBlock], m1.below.trans (hbe3.mono m1.below.size)⟩
    have HP0 := Lib.hid P0
    clear P0 hw2 hw3 hb2 hb3 hbe2 hbe3
    go_loopw [24] (fun i wr => ∃ (k : Nat) (out : List UInt8) (svA svB : Value), i = .int .i64 k ∧ k ≤ l.length ∧ out.length ≤ 65536 ∧ PairW w wr b1 svA out b2 svB out big a) (fun i _ => l.length - (intOf i).toNat)
    case atStart => exact ⟨0, [], _, _, rfl, Nat.zero_le _, by simp, HP0.out⟩
    case round =>
      obtain ⟨k, out, svA, svB, rfl, hk, hol, hp⟩ := hrel
      have HP := Lib.hid hp
      clear hp
      by_cases hlt : k < l.length
      · obtain ⟨c0, c1, c2, c3⟩ := (H.out.below HP.out.below hb) k hlt
        have hss : l[k].s.size ≤ 1000000 := by
          have h1 := totTo_le l (k + 1)
          have h2 := totTo_succ l k hlt
          omega
        generalize l[k].s = s at c3 hss
        generalize l[k].k = kk at c0
        generalize l[k].n = nn at c1
        generalize l[k].m = mm at c2
        obtain ⟨c, out', hbo⟩ := both_any big a out kk nn mm s ha ha2 hol hss
        have BL := hbo.len
        have bp := hbo.prog
        have bs := hbo.spec
        unfold actV at bp bs
        have BP := Lib.hid bp
        have BS := Lib.hid bs
        clear bp bs hbo hss
        go_wp2_with fail
        obtain ⟨g, hg⟩ : ∃ g, wr.heap.size = g := ⟨_, rfl⟩
        have hga := heap_alloc_new wr (Obj.cells #[Value.int IntKind.i64 kk, Value.int IntKind.i64 nn, Value.int IntKind.i64 mm, Value.string s] 30)
        have hpa := HP.out.later (W' := wr.alloc (Obj.cells #[Value.int IntKind.i64 kk, Value.int IntKind.i64 nn, Value.int IntKind.i64 mm, Value.string s] 30)) ((Below.refl _ _).alloc (Nat.le_refl _) _)
        have hg1 : g ≠ b1 := by have := HP.out.pa.1.lt; omega
        have hg2 : g ≠ b2 := by have := HP.out.pb.1.lt; omega
        have hgA : some g ≠ svA.ownBlock := fun e => by have := HP.out.pa.own_lt e.symm; omega
        have hgB : some g ≠ svB.ownBlock := fun e => by have := HP.out.pb.own_lt e.symm; omega
        generalize wr.alloc (Obj.cells #[Value.int IntKind.i64 kk, Value.int IntKind.i64 nn, Value.int IntKind.i64 mm, Value.string s] 30) = wx at hga hpa
        rw [hg] at hga
        rw [hg]
        clear hg c0 c1 c2 c3
        have hpd := hpa.later (below_drew wx)
        have hgd : wx.drew.heap[g]? = some (actO kk nn mm s) := hga
        clear hga hpa
        have hS : ActAt wx.drew g kk nn mm s := ActAt.of hgd
        refine wp_region_held_drew (S := fun W => ActAt W g kk nn mm s) (by kernel_rfl) hS (fun _ => ?_)
        refine takeT (i := 0) (d := 28) (v := .pointer (some ⟨b1, 0, none⟩)) rfl rfl (by kernel_rfl) (by kernel_rfl) (by kernel_rfl) (fun _ _ _ h => h) (by rfl) (by (rintro w ⟨p0, p1, p2, p3⟩; go_simp)) hS ?_
        simp only [List.setIfInBounds_toArray, List.set_cons_zero, List.set_cons_succ]
        refine takeT (i := 1) (d := 29) (v := .agg #[.int .i64 kk, .int .i64 nn, .int .i64 mm, .string s]) rfl rfl (by kernel_rfl) (by kernel_rfl) (by kernel_rfl) (fun _ _ _ h => h) (by rfl) (by (rintro w ⟨p0, p1, p2, p3⟩; go_simp)) hS ?_
        simp only [List.setIfInBounds_toArray, List.set_cons_zero, List.set_cons_succ]
        refine takeT (i := 3) (d := 31) (v := .pointer (some ⟨b2, 0, none⟩)) rfl rfl (by kernel_rfl) (by kernel_rfl) (by kernel_rfl) (fun _ _ _ h => h) (by rfl) (by (rintro w ⟨p0, p1, p2, p3⟩; go_simp)) hS ?_
        simp only [List.setIfInBounds_toArray, List.set_cons_zero, List.set_cons_succ]
        refine takeT (i := 4) (d := 32) (v := .agg #[.int .i64 kk, .int .i64 nn, .int .i64 mm, .string s]) rfl rfl (by kernel_rfl) (by kernel_rfl) (by kernel_rfl) (fun _ _ _ h => h) (by rfl) (by (rintro w ⟨p0, p1, p2, p3⟩; go_simp)) hS ?_
        simp only [List.setIfInBounds_toArray, List.set_cons_zero, List.set_cons_succ]
        refine wpAnyH_ready (rs := [2]) (by kernel_rfl) (by simp) ?_
        refine AllReadyH.cons rfl (fun K hK => ?_) AllReadyH.nil
        rw [if_pos (by rfl)]
        go_simp
        refine (BP.out b1 svA _ hpd.pa).mono ?_
        rintro e w4 ⟨rfl, svA2, hh4, hw4⟩
        have hp4 := hpd.stepA hh4 hw4
        have hg4 : w4.heap[g]? = some (actO kk nn mm s) := wrote_keeps hw4 hgd hg1 hgA
        have hS4 : ActAt w4 g kk nn mm s := ActAt.of hg4
        refine hK.out _ _ hS4 (fun _ => ?_)
        clear hK K
        refine wpAnyH_ready (rs := [5]) (by kernel_rfl) (by simp) ?_
        refine AllReadyH.cons rfl (fun K hK => ?_) AllReadyH.nil
        rw [if_pos (by rfl)]
        go_simp
        refine (BS.out b2 svB _ hp4.pb).mono ?_
        rintro e w5 ⟨rfl, svB2, hh5, hw5⟩
        have hp5 := hp4.stepB hh5 hw5
        have hg5 : w5.heap[g]? = some (actO kk nn mm s) := wrote_keeps hw5 hg4 hg2 hgB
        have hS5 : ActAt w5 g kk nn mm s := ActAt.of hg5
        refine hK.out _ _ hS5 (fun _ => ?_)
        clear hK K
        refine takeT (i := 6) (d := 34) (v := .bool false) rfl rfl (by kernel_rfl) (by kernel_rfl) (by kernel_rfl) (fun _ _ _ h => h) (by rfl) (by (rintro w ⟨p0, p1, p2, p3⟩; go_simp)) hS5 ?_
        simp only [List.setIfInBounds_toArray, List.set_cons_zero, List.set_cons_succ]
        refine takeT (i := 7) (d := 35) (v := .bool false) rfl rfl (by kernel_rfl) (by kernel_rfl) (by kernel_rfl) (fun _ _ _ h => h) (by rfl) (by (rintro w ⟨p0, p1, p2, p3⟩; go_simp)) hS5 ?_
        simp only [List.setIfInBounds_toArray, List.set_cons_zero, List.set_cons_succ]
        refine takeT (i := 8) (d := 36) (v := .pointer (some ⟨b1, 0, none⟩)) rfl rfl (by kernel_rfl) (by kernel_rfl) (by kernel_rfl) (fun _ _ _ h => h) (by rfl) (by (rintro w ⟨p0, p1, p2, p3⟩; go_simp)) hS5 ?_
        simp only [List.setIfInBounds_toArray, List.set_cons_zero, List.set_cons_succ]
        refine takeT (i := 10) (d := 38) (v := .pointer (some ⟨b2, 0, none⟩)) rfl rfl (by kernel_rfl) (by kernel_rfl) (by kernel_rfl) (fun _ _ _ h => h) (by rfl) (by (rintro w ⟨p0, p1, p2, p3⟩; go_simp)) hS5 ?_
        simp only [List.setIfInBounds_toArray, List.set_cons_zero, List.set_cons_succ]
        obtain ⟨aoA, capA, eA⟩ := hp5.pa.form
        obtain ⟨aoB, capB, eB⟩ := hp5.pb.form
        refine wpAnyH_ready (rs := [9]) (by kernel_rfl) (by simp) ?_
        refine AllReadyH.cons rfl (fun K hK => ?_) AllReadyH.nil
        rw [if_pos (by rfl)]
        go_simp
        refine (place_any b1 big a aoA out'.length capA _ (eA ▸ hp5.pa.1) ha ha2 (by omega)).mono ?_
        rintro e w6 ⟨rfl, nq, rfl⟩
        have hS6 : ActAt (w5.drewN nq) g kk nn mm s := ActAt.of hg5
        refine hK.out _ _ hS6 (fun _ => ?_)
        clear hK K
        refine wpAnyH_ready (rs := [11]) (by kernel_rfl) (by simp) ?_
        refine AllReadyH.cons rfl (fun K hK => ?_) AllReadyH.nil
        rw [if_pos (by rfl)]
        go_simp
        refine (rplace_any b2 big a aoB out'.length capB _ (show RAt (w5.drewN nq) b2 big a _ from eB ▸ hp5.pb.1) ha ha2 (by omega)).mono ?_
        rintro e w7 ⟨rfl, nr, rfl⟩
        have hS7 : ActAt ((w5.drewN nq).drewN nr) g kk nn mm s := ActAt.of hg5
        refine hK.out _ _ hS7 (fun _ => ?_)
        clear hK K
        refine takeT (i := 12) (d := 40) (v := .bool false) rfl rfl (by kernel_rfl) (by kernel_rfl) (by kernel_rfl) (fun _ _ _ h => h) (by rfl) (by (rintro w ⟨p0, p1, p2, p3⟩; go_simp)) hS7 ?_
        simp only [List.setIfInBounds_toArray, List.set_cons_zero, List.set_cons_succ]
        refine takeT (i := 13) (d := 41) (v := .bool false) rfl rfl (by kernel_rfl) (by kernel_rfl) (by kernel_rfl) (fun _ _ _ h => h) (by rfl) (by (rintro w ⟨p0, p1, p2, p3⟩; go_simp)) hS7 ?_
        simp only [List.setIfInBounds_toArray, List.set_cons_zero, List.set_cons_succ]
        refine wpAnyH_done (by kernel_rfl) ?_ _
        have HP7 := Lib.hid ((hp5.later (below_drewN' w5 nq)).later (below_drewN' _ nr))
        clear hS hS4 hS5 hS6 hS7 hgd hg4 hg5 hpd hp4 hp5 eA eB hh4 hh5 hw4 hw5 hgA hgB hg1 hg2
        go_wp2_with fail
        have HP8 : PairW w (w5.drewN (nq + nr)) b1 svA2 out' b2 svB2 out' big a := by
          have h8 := HP7.out
          rwa [World.drewN_drewN] at h8
        exact ⟨⟨k + 1, out', svA2, svB2, by go_num, hlt, BL, HP8⟩, by simp [intOf]; omega⟩
      · obtain rfl : k = l.length := by omega
        have AA := Lib.hid (all_any b1 big a svA out wr HP.out.pa)
        have AB := Lib.hid (rall_any b2 big a svB out wr HP.out.pb)
        obtain ⟨t, hto⟩ : ∃ t, (⟨out.toArray⟩ : ByteArray) = t := ⟨_, rfl⟩
        rw [hto] at AA AB
        clear hto
        go_wp2_with (first | (go_at_call 17; (fail_if_success (have := k1)); refine AA.out.mono ?_; rintro e w4 ⟨rfl, rfl⟩; have k1 := true) | (go_at_call 18; refine AB.out.mono ?_; rintro e w4 ⟨rfl, rfl⟩) | (go_at_call 19; refine (octet_nil _).mono ?_; rintro e w5 ⟨rfl, hb5⟩; have B5 := Lib.hid hb5; clear hb5) | (go_at_call 20; refine (put_nil _).mono ?_; rintro e w6 ⟨rfl, hb6⟩; have B6 := Lib.hid hb6; clear hb6) | (go_at_call 15; refine (place_nil _).mono ?_; rintro e w7 ⟨rfl, rfl⟩))
        refine (all_nil _).mono ?_
        rintro e w8 ⟨rfl, rfl⟩
        go_wp2_with (go_at_call 10; refine (awake_any _).mono ?_; rintro e w9 ⟨rfl, hb9⟩; have B9 := Lib.hid hb9; clear hb9)
        go_ret
        have b1' := HP.out.below
        have b2' := b1'.trans (B5.out.mono b1'.size)
        have b3' := b2'.trans (B6.out.mono b2'.size)
        exact ⟨rfl, b3'.trans (B9.out.mono b3'.size)⟩
end Go.Proofs.Ytdklmeamhcgohaa
