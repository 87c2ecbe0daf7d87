/-
  PROVED HERE: the law CdrFirst returns true for acts that lie in memory, whatever their number, each text of at most 2^47 - 4096 bytes.
-/
import Derived.Test.YtdklmeamhcgohaaFc
namespace Go.Proofs.Ytdklmeamhcgohaa
open Go.RowKit

/-- A READER NEWER THAN W0. -/
structure NewR (W0 W : World) (b : Nat) (big : Bool) (a : Int) (s : ByteArray) (r : Nat × Bool) : Prop where
  at' : CdAt W b big a s r.1 r.2
  lo : W0.heap.size ≤ b
  below : Below W0.heap.size W0 W

theorem NewR.later {W0 W W' : World} {b : Nat} {big : Bool} {a : Int} {s : ByteArray} {r : Nat × Bool} (h : NewR W0 W b big a s r) (hb : Below W.heap.size W W') : NewR W0 W' b big a s r :=
  ⟨h.at'.below hb h.at'.lt, h.lo, h.below.trans (hb.mono h.below.size)⟩
theorem NewR.act {W0 W W1 : World} {b : Nat} {big : Bool} {a : Int} {s : ByteArray} {r : Nat × Bool} {R : RR} (h : NewR W0 W b big a s r) (h1 : RG W b big a s R W1) : NewR W0 W1 b big a s (st R) :=
  ⟨h1.1, h.lo, below_then h.below h1.2 h.lo⟩

theorem below_alloc (w : World) (o : Obj) : Below w.heap.size w (w.alloc o) := (Below.refl _ _).alloc (Nat.le_refl _) _

theorem same_head (l l1 : List UInt8) (m : Nat) (hm : m ≤ l.length) (h1 : l1.length = l.length) : Same l (l1.take 0 ++ l.take m ++ l1.drop (0 + (l.take m).length)) m := by
  have hl : (l.take m).length = m := by rw [List.length_take]; omega
  refine ⟨by simp; omega, fun j hj => ?_⟩
  simp only [List.take_zero, List.nil_append]
  rw [List.getElem?_append_left (by rw [hl]; exact hj), List.getElem?_take, if_pos hj]

set_option maxRecDepth 100000 in
set_option maxHeartbeats 4000000 in
theorem walk7_wide (s t0 : ByteArray) (big : Bool) (b off cap : Nat) (l : List ActD) (w : World) (h : ActsAt w b off l) (hb : b < w.heap.size) (hl : l.length ≤ maxLen) (hs : ∀ i (h : i < l.length), l[i].s.size ≤ 140737488351232) (hsz : s.size ≤ 140737488351232) (htz : t0.size ≤ 140737488351232) :
    Calls Try.prog 7 #[.string s, .string t0, .bool big, .slice (some ⟨b, off, none⟩) l.length cap] w fun e w' => e = .returned (.bool true) ∧ Below w.heap.size w w' := by
  have LG := Lib.hid (light_wide b off cap l w h hb hl hs)
  clear hl hs
  obtain ⟨r, hr⟩ : ∃ r, (decide (l.length ≤ 60) && decide (totTo l l.length ≤ 300000)) = r := ⟨_, rfl⟩
  rw [hr] at LG
  cases r
  · clear hr h
    go_enter Try.func7, Try.ntmps7
    go_wp2_with (first | (go_at_call 9; refine LG.out.mono ?_; rintro e w1 ⟨rfl, hb1⟩; have B1 := Lib.hid hb1; clear hb1) | (go_at_call 10; refine (awake_any _).mono ?_; rintro e w2 ⟨rfl, hb2⟩; have B2 := Lib.hid hb2; clear hb2))
    go_ret
    exact ⟨rfl, B1.out.trans (B2.out.mono B1.out.size)⟩
  simp only [Bool.and_eq_true, decide_eq_true_eq] at hr
  obtain ⟨hr1, hr2⟩ := hr
  by_cases h2000 : s.size ≤ 2000
  case neg =>
    have d0 : decide ((2000 : Int) < s.size) = true := by simp; omega
    clear h
    go_enter Try.func7, Try.ntmps7
    go_wp2_with (first | (go_at_call 9; refine LG.out.mono ?_; rintro e w1 ⟨rfl, hb1⟩; have B1 := Lib.hid hb1; clear hb1) | (go_at_call 10; refine (awake_any _).mono ?_; rintro e w2 ⟨rfl, hb2⟩; have B2 := Lib.hid hb2; clear hb2))
    go_ret
    exact ⟨rfl, B1.out.trans (B2.out.mono B1.out.size)⟩
  have d0 : decide ((2000 : Int) < s.size) = false := by simp; omega
  by_cases h2001 : t0.size ≤ 2000
  case neg =>
    have d1 : decide ((2000 : Int) < t0.size) = true := by simp; omega
    clear h
    go_enter Try.func7, Try.ntmps7
    go_wp2_with (first | (go_at_call 9; refine LG.out.mono ?_; rintro e w1 ⟨rfl, hb1⟩; have B1 := Lib.hid hb1; clear hb1) | (go_at_call 10; refine (awake_any _).mono ?_; rintro e w2 ⟨rfl, hb2⟩; have B2 := Lib.hid hb2; clear hb2))
    go_ret
    exact ⟨rfl, B1.out.trans (B2.out.mono B1.out.size)⟩
  have d1 : decide ((2000 : Int) < t0.size) = false := by simp; omega
  have H := Lib.hid h
  have hs : s.size ≤ 1000000 := by omega
  have HRB := Lib.hid (runTo_bd s big l)
  clear h hsz htz
  go_enter Try.func7, Try.ntmps7
  go_wp2_with (first | (go_at_call 9; refine LG.out.mono ?_; rintro e w1 ⟨rfl, hb1⟩; have B1 := Lib.hid hb1; clear hb1) | (go_at_call 21; refine (newReader_any _ _ _ _).mono ?_; rintro e w2 ⟨b1, rfl, hb2, hw2, hbe2⟩))
  have HP0 := Lib.hid (show NewR w w2 b1 big 0 s (0, false) from ⟨hw2, Nat.le_trans B1.out.size hb2, B1.out.trans (hbe2.mono B1.out.size)⟩)
  clear hw2 hb2 hbe2
  go_loopw [37] (fun v wr => ∃ k : Nat, v = .int .i64 k ∧ k ≤ l.length ∧ NewR w wr b1 big 0 s (runTo s big l k)) (fun v _ => l.length - (intOf v).toNat)
  case atStart => exact ⟨0, rfl, Nat.zero_le _, HP0.out⟩
  case round =>
    obtain ⟨k, rfl, hk, hp⟩ := hrel
    have HP := Lib.hid hp
    clear hp
    by_cases hlt : k < l.length
    · obtain ⟨c0, c1, c2, c3⟩ := (H.out.below HP.out.below hb) k hlt
      have HRS := Lib.hid (runTo_succ s big l k hlt)
      have RA := Lib.hid (fun W hW => read_any b1 big 0 s (runTo s big l k).1 (runTo s big l k).2 l[k].k l[k].n l[k].m l[k].s W hW (by omega) (by omega) hs (HRB.out k))
      generalize l[k].s = t at c3 RA
      generalize l[k].k = kk at c0 RA HRS
      generalize l[k].n = nn at c1 RA HRS
      generalize l[k].m = mm at c2 RA
      obtain ⟨R, hR⟩ : ∃ R, rdA s big 0 kk nn (runTo s big l k).1 (runTo s big l k).2 = R := ⟨_, rfl⟩
      rw [hR] at RA HRS
      unfold actV at RA
      clear hR
      have hpa := HP.out.later (W' := wr.alloc (Obj.cells #[Value.int IntKind.i64 kk, Value.int IntKind.i64 nn, Value.int IntKind.i64 mm, Value.string t] 30)) (below_alloc _ _)
      have HPA := Lib.hid hpa
      clear hpa
      go_wp2_with (go_at_call 23; refine (RA.out _ HPA.out.at').mono ?_; rintro e w4 ⟨rfl, h4⟩; have HP4 := Lib.hid (HPA.out.act h4); clear h4)
      exact ⟨⟨k + 1, by go_num, hlt, by rw [HRS.out]; exact HP4.out⟩, by simp [intOf]; omega⟩
    · obtain rfl : k = l.length := by omega
      obtain ⟨⟨B, W⟩, hB⟩ : ∃ r, runTo s big l l.length = r := ⟨_, rfl⟩
      have hBs := HRB.out l.length
      rw [hB] at HP hBs
      dsimp only at hBs
      have BD := cbad_any b1 big 0 s B W wr HP.out.at' (by omega) (by omega) (by omega)
      cases W
      · rw [show badN 0 B false = -1 from rfl] at BD
        have BD := Lib.hid BD
        clear hB
        go_wp2_with (first | (go_at_call 29; refine BD.out.mono ?_; rintro e w4 ⟨rfl, nq, rfl⟩) | (go_at_call 10; refine (awake_any _).mono ?_; rintro e w5 ⟨rfl, hb5⟩; have B5 := Lib.hid hb5; clear hb5))
        go_ret
        exact ⟨rfl, (HP.out.later (below_drewN' _ nq)).below.trans (B5.out.mono HP.out.below.size)⟩
      rw [show badN 0 B true = (B : Int) from by simp [badN]] at BD
      have BD := Lib.hid BD
      by_cases hlB : B < s.size
      case neg =>
        clear hB
        have d3 : decide ((s.size : Int) ≤ B) = true := by simp; omega
        go_wp2_with (first | (go_at_call 29; refine BD.out.mono ?_; rintro e w4 ⟨rfl, nq, rfl⟩) | (go_at_call 10; refine (awake_any _).mono ?_; rintro e w5 ⟨rfl, hb5⟩; have B5 := Lib.hid hb5; clear hb5))
        go_ret
        exact ⟨rfl, (HP.out.later (below_drewN' _ nq)).below.trans (B5.out.mono HP.out.below.size)⟩
      have d3 : decide ((s.size : Int) ≤ B) = false := by simp; omega
      have HBB := Lib.hid hB
      clear hB
      go_wp2_with fail
      refine BD.out.mono ?_
      rintro e w4 ⟨rfl, nq, rfl⟩
      have HPD := Lib.hid (HP.out.later (below_drewN' wr nq)).below
      generalize wr.drewN nq = wd at HPD ⊢
      have hbs := run_bytes_of_string (P := Try.prog) wd 9 54 5 s Try.underlying9 Try.underlying54 Try.underlying5
      have hr0 : RowAt (wd.drew.alloc (.cells (bytesRow s (grownCap wd s.size 0 5)) 5 ((bytesRow s (grownCap wd s.size 0 5)).size, (bytesRow s (grownCap wd s.size 0 5)).size + 1))) wd.heap.size s.data.toList := RowAt.ofText wd.drew s (grownCap wd s.size 0 5)
      have hb0 : Below wd.heap.size wd (wd.drew.alloc (.cells (bytesRow s (grownCap wd s.size 0 5)) 5 ((bytesRow s (grownCap wd s.size 0 5)).size, (bytesRow s (grownCap wd s.size 0 5)).size + 1))) := ((Below.refl _ _).drew).alloc (Nat.le_refl _) _
      generalize wd.drew.alloc (.cells (bytesRow s (grownCap wd s.size 0 5)) 5 ((bytesRow s (grownCap wd s.size 0 5)).size, (bytesRow s (grownCap wd s.size 0 5)).size + 1)) = we at hbs hr0 hb0
      have hcap : s.size ≤ grownCap wd s.size 0 5 := grownCap_ge _ _ _ _
      generalize grownCap wd s.size 0 5 = cap2 at hbs hcap
      have HCAP := Lib.hid hcap
      clear hcap
      have HBE := Lib.hid (HPD.out.trans (hb0.mono HPD.out.size))
      have hwg := HPD.out.size
      obtain ⟨g, hg⟩ : ∃ g, wd.heap.size = g := ⟨_, rfl⟩
      rw [hg] at hbs hr0 hwg
      have HR0 := Lib.hid hr0
      have HWG := Lib.hid hwg
      clear hb0 hr0 hg hwg
      go_wp2_with fail
      clear hbs
      go_loopw [14] (fun v wr => ∃ (q : Nat) (l1 : List UInt8), v = .int .i64 q ∧ B + 1 ≤ q ∧ q ≤ s.size ∧ l1.length = s.size ∧ RowAt wr g l1 ∧ Below w.heap.size w wr) (fun v _ => s.size - (intOf v).toNat)
      case atStart => exact ⟨B + 1, s.data.toList, by go_num, Nat.le_refl _, hlB, rfl, HR0.out, HBE.out⟩
      case round =>
        obtain ⟨q, l1, rfl, hq1, hq2, hl1, hrow, hbel⟩ := hrel
        have HROW := Lib.hid hrow
        have HL1 := Lib.hid hl1
        obtain ⟨r, hr⟩ : ∃ r, q - B - 1 = r := ⟨_, rfl⟩
        have e1 : (q : Int) - B - 1 = r := by omega
        by_cases hcond : q < s.size ∧ r < t0.size
        · obtain ⟨hqs, hrs⟩ := hcond
          have f1 := hrow.frozen q (by omega)
          obtain ⟨old, f2⟩ : ∃ old : UInt8, wr.cell? ⟨g, q, none⟩ = some (.int .u8 (old.toNat : Int)) := ⟨_, hrow.cell q (by omega)⟩
          have d4 : decide ((q : Int) < s.size) = true := by simp; omega
          have d5 : decide ((r : Int) < t0.size) = true := by simp; omega
          have HST := Lib.hid (hrow.store q t0[r])
          clear hrow hl1 hr
          go_wp2_with fail
          exact ⟨⟨q + 1, l1.set q t0[r], by go_num, by omega, hqs, by rw [List.length_set]; exact HL1.out, HST.out, hbel.setCell (p := ⟨g, q, none⟩) HWG.out _⟩, by simp [intOf]; omega⟩
        · obtain ⟨M, hM⟩ : ∃ M, min s.size (B + 4) = M := ⟨_, rfl⟩
          have hMs : M ≤ s.size := by omega
          have hMl : ((bytesOf s).take M).length = M := by rw [List.length_take, bytesOf_length]; omega
          have hov := hrow.over ((bytesOf s).take M) 0 wr l1 (by omega)
          have hbo := below_over HWG.out (bcells ((bytesOf s).take M)) 0 wr hbel
          have hcell : ∀ j, j < M → (wr.cell? ⟨g, 0 + j, none⟩).isSome = true := fun j hj => by rw [Nat.zero_add, hrow.cell j (by omega)]; rfl
          have hfroz : ∀ j, j < M → wr.frozen? ⟨g, 0 + j, none⟩ = false := fun j hj => by rw [Nat.zero_add]; exact hrow.frozen j (by omega)
          have hsm := same_head (bytesOf s) l1 M (by rw [bytesOf_length]; exact hMs) (by rw [bytesOf_length]; exact hl1)
          obtain ⟨l2, hl2⟩ : ∃ l2, l1.take 0 ++ (bytesOf s).take M ++ l1.drop (0 + ((bytesOf s).take M).length) = l2 := ⟨_, rfl⟩
          rw [hl2] at hov hsm
          have hl2l : l2.length = s.size := by have := hsm.1; rwa [bytesOf_length] at this
          have hcv := hov.conv (cap := cap2)
          rw [hl2l] at hcv
          have hfs := first_same (s := s) (s' := ⟨l2.toArray⟩) big l hsm HBB.out hlB (by omega) l.length (Nat.le_refl _)
          by_cases hqs : q < s.size
          · have d4 : decide ((q : Int) < s.size) = true := by simp; omega
            have d5 : decide ((r : Int) < t0.size) = false := by simp; omega
            have hmin : min (s.size : Int) ((B : Int) + 4) = (M : Int) := by omega
            have hMc : M ≤ cap2 := Nat.le_trans hMs HCAP.out
            have hM1 : 1 ≤ M := by omega
            have HOV := Lib.hid hov
            have HBO := Lib.hid hbo
            have HFS := Lib.hid (hfs.trans HBB.out)
            have HC := Lib.hid hcell
            have HF := Lib.hid hfroz
            clear hrow hl1 hr hov hbo hcell hfroz hsm hl2 hfs hM
            have hrun := run_copy_head (P := Try.prog) wr 54 9 3 5 g M cap2 s Try.underlying54 Try.sizeOne5 hMs HC.out HF.out
            generalize wr.setCells g 0 (bcells ((bytesOf s).take M)) = wf at HOV HBO hcv hrun
            go_wp2_with fail
            clear hrun hcv
            obtain ⟨s2, hs2⟩ : ∃ s2 : ByteArray, s2 = ⟨l2.toArray⟩ := ⟨_, rfl⟩
            have hs2z : s2.size = s.size := by rw [hs2]; exact hl2l
            rw [← hs2] at HFS ⊢
            have HRB2 := Lib.hid (runTo_bd s2 big l)
            refine (newReader_any s2 big 0 wf).mono ?_
            rintro e w6 ⟨b2, rfl, hb6, hw6, hbe6⟩
            have HP2 := Lib.hid (show NewR w w6 b2 big 0 s2 (0, false) from ⟨hw6, Nat.le_trans HBO.out.size hb6, HBO.out.trans (hbe6.mono HBO.out.size)⟩)
            clear hw6 hb6 hbe6 hs2 hl2l
            go_wp2_with fail
            go_loopw [99] (fun v wr => ∃ k : Nat, v = .int .i64 k ∧ k ≤ l.length ∧ NewR w wr b2 big 0 s2 (runTo s2 big l k)) (fun v _ => l.length - (intOf v).toNat)
            case atStart => exact ⟨0, rfl, Nat.zero_le _, HP2.out⟩
            case round =>
              obtain ⟨k, rfl, hk, hp⟩ := hrel
              have HP3 := Lib.hid hp
              clear hp
              by_cases hlt2 : k < l.length
              · obtain ⟨c0, c1, c2, c3⟩ := (H.out.below HP3.out.below hb) k hlt2
                have HRS := Lib.hid (runTo_succ s2 big l k hlt2)
                have RA := Lib.hid (fun W hW => read_any b2 big 0 s2 (runTo s2 big l k).1 (runTo s2 big l k).2 l[k].k l[k].n l[k].m l[k].s W hW (by omega) (by omega) (by omega) (HRB2.out k))
                generalize l[k].s = t at c3 RA
                generalize l[k].k = kk at c0 RA HRS
                generalize l[k].n = nn at c1 RA HRS
                generalize l[k].m = mm at c2 RA
                obtain ⟨R, hR⟩ : ∃ R, rdA s2 big 0 kk nn (runTo s2 big l k).1 (runTo s2 big l k).2 = R := ⟨_, rfl⟩
                rw [hR] at RA HRS
                unfold actV at RA
                clear hR
                have HPA := Lib.hid (HP3.out.later (W' := wr.alloc (Obj.cells #[Value.int IntKind.i64 kk, Value.int IntKind.i64 nn, Value.int IntKind.i64 mm, Value.string t] 30)) (below_alloc _ _))
                go_wp2_with (go_at_call 23; refine (RA.out _ HPA.out.at').mono ?_; rintro e w4 ⟨rfl, h4⟩; have HP4 := Lib.hid (HPA.out.act h4); clear h4)
                exact ⟨⟨k + 1, by go_num, hlt2, by rw [HRS.out]; exact HP4.out⟩, by simp [intOf]; omega⟩
              · obtain rfl : k = l.length := by omega
                rw [HFS.out] at HP3
                have BD2 := cbad_any b2 big 0 s2 B true wr HP3.out.at' (by omega) (by omega) (by omega)
                rw [show badN 0 B true = (B : Int) from by simp [badN]] at BD2
                have BD2 := Lib.hid BD2
                go_wp2_with (first | (go_at_call 29; refine BD2.out.mono ?_; rintro e w4 ⟨rfl, nq, rfl⟩) | (go_at_call 10; refine (awake_any _).mono ?_; rintro e w5 ⟨rfl, hb5⟩; have B5 := Lib.hid hb5; clear hb5))
                go_ret
                exact ⟨rfl, (HP3.out.later (below_drewN' _ nq)).below.trans (B5.out.mono HP3.out.below.size)⟩
          · have d4 : decide ((q : Int) < s.size) = false := by simp; omega
            have hmin : min (s.size : Int) ((B : Int) + 4) = (M : Int) := by omega
            have hMc : M ≤ cap2 := Nat.le_trans hMs HCAP.out
            have hM1 : 1 ≤ M := by omega
            have HOV := Lib.hid hov
            have HBO := Lib.hid hbo
            have HFS := Lib.hid (hfs.trans HBB.out)
            have HC := Lib.hid hcell
            have HF := Lib.hid hfroz
            clear hrow hl1 hr hov hbo hcell hfroz hsm hl2 hfs hM
            have hrun := run_copy_head (P := Try.prog) wr 54 9 3 5 g M cap2 s Try.underlying54 Try.sizeOne5 hMs HC.out HF.out
            generalize wr.setCells g 0 (bcells ((bytesOf s).take M)) = wf at HOV HBO hcv hrun
            go_wp2_with fail
            clear hrun hcv
            obtain ⟨s2, hs2⟩ : ∃ s2 : ByteArray, s2 = ⟨l2.toArray⟩ := ⟨_, rfl⟩
            have hs2z : s2.size = s.size := by rw [hs2]; exact hl2l
            rw [← hs2] at HFS ⊢
            have HRB2 := Lib.hid (runTo_bd s2 big l)
            refine (newReader_any s2 big 0 wf).mono ?_
            rintro e w6 ⟨b2, rfl, hb6, hw6, hbe6⟩
            have HP2 := Lib.hid (show NewR w w6 b2 big 0 s2 (0, false) from ⟨hw6, Nat.le_trans HBO.out.size hb6, HBO.out.trans (hbe6.mono HBO.out.size)⟩)
            clear hw6 hb6 hbe6 hs2 hl2l
            go_wp2_with fail
            go_loopw [99] (fun v wr => ∃ k : Nat, v = .int .i64 k ∧ k ≤ l.length ∧ NewR w wr b2 big 0 s2 (runTo s2 big l k)) (fun v _ => l.length - (intOf v).toNat)
            case atStart => exact ⟨0, rfl, Nat.zero_le _, HP2.out⟩
            case round =>
              obtain ⟨k, rfl, hk, hp⟩ := hrel
              have HP3 := Lib.hid hp
              clear hp
              by_cases hlt2 : k < l.length
              · obtain ⟨c0, c1, c2, c3⟩ := (H.out.below HP3.out.below hb) k hlt2
                have HRS := Lib.hid (runTo_succ s2 big l k hlt2)
                have RA := Lib.hid (fun W hW => read_any b2 big 0 s2 (runTo s2 big l k).1 (runTo s2 big l k).2 l[k].k l[k].n l[k].m l[k].s W hW (by omega) (by omega) (by omega) (HRB2.out k))
                generalize l[k].s = t at c3 RA
                generalize l[k].k = kk at c0 RA HRS
                generalize l[k].n = nn at c1 RA HRS
                generalize l[k].m = mm at c2 RA
                obtain ⟨R, hR⟩ : ∃ R, rdA s2 big 0 kk nn (runTo s2 big l k).1 (runTo s2 big l k).2 = R := ⟨_, rfl⟩
                rw [hR] at RA HRS
                unfold actV at RA
                clear hR
                have HPA := Lib.hid (HP3.out.later (W' := wr.alloc (Obj.cells #[Value.int IntKind.i64 kk, Value.int IntKind.i64 nn, Value.int IntKind.i64 mm, Value.string t] 30)) (below_alloc _ _))
                go_wp2_with (go_at_call 23; refine (RA.out _ HPA.out.at').mono ?_; rintro e w4 ⟨rfl, h4⟩; have HP4 := Lib.hid (HPA.out.act h4); clear h4)
                exact ⟨⟨k + 1, by go_num, hlt2, by rw [HRS.out]; exact HP4.out⟩, by simp [intOf]; omega⟩
              · obtain rfl : k = l.length := by omega
                rw [HFS.out] at HP3
                have BD2 := cbad_any b2 big 0 s2 B true wr HP3.out.at' (by omega) (by omega) (by omega)
                rw [show badN 0 B true = (B : Int) from by simp [badN]] at BD2
                have BD2 := Lib.hid BD2
                go_wp2_with (first | (go_at_call 29; refine BD2.out.mono ?_; rintro e w4 ⟨rfl, nq, rfl⟩) | (go_at_call 10; refine (awake_any _).mono ?_; rintro e w5 ⟨rfl, hb5⟩; have B5 := Lib.hid hb5; clear hb5))
                go_ret
                exact ⟨rfl, (HP3.out.later (below_drewN' _ nq)).below.trans (B5.out.mono HP3.out.below.size)⟩

end Go.Proofs.Ytdklmeamhcgohaa
