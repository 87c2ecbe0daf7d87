/- The law FragWoven returns true, whatever the bodies, the sizes and the turns. -/
import Derived.Test.YteblbpdpfegooaaWf
import Derived.Test.YteblbpdpfegooaaJs
namespace Go.Proofs.Yteblbpdpfegooaa
open Go.RowKit Go.Sort Go.BigFrame

/-- The first k turns are none below 0. -/
def posTo (ts : List Int) (k : Nat) : Prop := ∀ i (h : i < ts.length), i < k → 0 ≤ ts[i]

/-- Between two bodies. -/
structure WcI (w wr : World) (v : Value) (bs : List ByteArray) (ss : List Int) (k : Nat) : Prop where
  out : ∃ ds, LsI w wr v ds ∧ lls ds = cuts bs ss k
  fits : fits bs ss k

theorem fits_succ {bs : List ByteArray} {ss : List Int} {k : Nat} (h : fits bs ss k) (h1 : (bs.getD k ⟨#[]⟩).size ≤ 100) (h2 : 1 ≤ sizeOf2 ss k) (h3 : sizeOf2 ss k ≤ 100) : fits bs ss (k + 1) := fun i hi => by
  by_cases e : i = k
  · subst e; exact ⟨h1, h2, h3⟩
  · exact h i (by omega)

theorem pos_succ {ts : List Int} {k : Nat} (h : posTo ts k) (hk : k < ts.length) (h1 : 0 ≤ ts[k]) : posTo ts (k + 1) := fun i hi hik => by
  by_cases e : i = k
  · subst e; exact h1
  · exact h i hi (by omega)

theorem pos_all {ts : List Int} (h : posTo ts ts.length) : allN ts = true := List.all_eq_true.2 fun x hx => by
  obtain ⟨i, hi, rfl⟩ := List.getElem_of_mem hx
  unfold negOk
  exact decide_eq_true (h i hi hi)

set_option maxRecDepth 100000 in
set_option maxHeartbeats 16000000 in
theorem wovenLaw_any (ao so to : Option Addr) (ac sc tc : Nat) (bs : List ByteArray) (ss ts : List Int) (w : World) (hb : TxRow w ao bs) (hs : IntRow w so ss) (ht : IntRow w to ts) (hbl : bs.length ≤ 9223372036854775807) (hsl : ss.length ≤ 9223372036854775807) (htl : ts.length ≤ 9223372036854775807)
    (hbb : ∀ b ∈ bs, b.size ≤ 9223372036854775807) (hsb : ∀ t ∈ ss, -9223372036854775808 ≤ t ∧ t ≤ 9223372036854775807) (htb : ∀ t ∈ ts, t ≤ 9223372036854775807) :
    Calls Try.prog 5 #[.slice ao bs.length ac, .slice so ss.length sc, .slice to ts.length tc] w fun e w' => e = .returned (.bool true) ∧ Below w.heap.size w w' := by
  have HB := Lib.hid hb
  have HS := Lib.hid hs
  have HT := Lib.hid ht
  have AW := Lib.hid fun wx => awake_any wx
  have HL := Lib.hid (And.intro hbl (And.intro hsl htl))
  have HSB := Lib.hid hsb
  have HTB := Lib.hid htb
  have HBB := Lib.hid hbb
  clear hb hs ht hsb htb hbl hsl htl hbb
  by_cases i0 : (bs.length : Int) < 1
  · go_enter Try.func5, Try.ntmps5
    go_wp2_with (go_at_call 7; refine (AW.out _).mono ?_; rintro e w9 ⟨rfl, hb9⟩; have B9 := Lib.hid hb9; clear hb9)
    go_ret
    exact ⟨rfl, B9.out⟩
  by_cases i1 : 10 < (bs.length : Int)
  · go_enter Try.func5, Try.ntmps5
    go_wp2_with (go_at_call 7; refine (AW.out _).mono ?_; rintro e w9 ⟨rfl, hb9⟩; have B9 := Lib.hid hb9; clear hb9)
    go_ret
    exact ⟨rfl, B9.out⟩
  by_cases i2 : (ss.length : Int) < 1
  · go_enter Try.func5, Try.ntmps5
    go_wp2_with (go_at_call 7; refine (AW.out _).mono ?_; rintro e w9 ⟨rfl, hb9⟩; have B9 := Lib.hid hb9; clear hb9)
    go_ret
    exact ⟨rfl, B9.out⟩
  by_cases i3 : 300 < (ts.length : Int)
  · go_enter Try.func5, Try.ntmps5
    go_wp2_with (go_at_call 7; refine (AW.out _).mono ?_; rintro e w9 ⟨rfl, hb9⟩; have B9 := Lib.hid hb9; clear hb9)
    go_ret
    exact ⟨rfl, B9.out⟩
  go_enter Try.func5, Try.ntmps5
  go_wp2_with fail
  go_loopw [46] (fun i wr => ∃ k : Nat, i = .int .i64 k ∧ k ≤ ts.length ∧ posTo ts k ∧ Below w.heap.size w wr) (fun i _ => ts.length - (intOf i).toNat)
  case atStart => exact ⟨0, rfl, Nat.zero_le _, fun i _ h => absurd h (Nat.not_lt_zero _), Below.refl _ _⟩
  case round =>
    obtain ⟨k, rfl, hk, hpos, hbel⟩ := hrel
    have HP := Lib.hid hpos
    have W1 := Lib.hid hbel
    clear hpos hbel
    by_cases hlt : k < ts.length
    · rcases HT.out with h0 | ⟨bb, off, rfl, hbb, hac⟩
      · subst h0; exact absurd hlt (by simp)
      have c0 := (hac.below W1.out hbb) k hlt
      have HST : Hid (0 ≤ ts[k] → posTo ts (k + 1)) := Lib.hid fun h => pos_succ HP.out hlt h
      obtain ⟨x, hx⟩ : ∃ x, ts[k] = x := ⟨_, rfl⟩
      rw [hx] at c0 HST
      have HLT := Lib.hid hlt
      have hk1 : (k : Int) < (ts.length : Int) := by omega
      have hk0 : (0 : Int) ≤ (k : Int) := by omega
      have hk2 : (k : Int) + 1 ≤ 1000 := by omega
      clear hx hac HP hbb
      by_cases hx0 : x < 0
      · go_wp2_with (go_at_call 7; refine (AW.out _).mono ?_; rintro e w9 ⟨rfl, hb9⟩; have B9 := Lib.hid (W1.out.trans (hb9.mono W1.out.size)); clear hb9)
        go_ret
        exact ⟨rfl, B9.out⟩
      · have HX0 := Lib.hid hx0
        go_wp2_with fail
        exact ⟨⟨k + 1, by go_num, HLT.out, HST.out (by have := HX0.out; omega), W1.out⟩, by simp [intOf]; have := HLT.out; omega⟩
    · obtain rfl : k = ts.length := by omega
      have HAN := Lib.hid (pos_all HP.out)
      clear HP hk hlt
      go_wp2_with fail
      go_loopw [9, 10, 56] (fun v t i wr => ∃ k : Nat, i = .int .i64 k ∧ k ≤ bs.length ∧ t = .int .i64 (tot bs k : Nat) ∧ WcI w wr v bs ss k) (fun _ _ i _ => bs.length - (intOf i).toNat)
      case atStart => exact ⟨0, rfl, Nat.zero_le _, rfl, ⟨[], LsI.start w W1.out, rfl⟩, fun i h => absurd h (Nat.not_lt_zero _)⟩
      case round =>
        obtain ⟨k, rfl, hk, rfl, hwc⟩ := hrel
        have WC := Lib.hid hwc
        clear hwc
        have hbz : bs.length ≤ 10 := by omega
        by_cases hlt : k < bs.length
        · rcases HB.out with h0 | ⟨bb, off, rfl, hbb, hac⟩
          · subst h0; exact absurd hlt (by simp)
          rcases HS.out with h0 | ⟨sb, sof, rfl, hsb, hsc⟩
          · subst h0; exact absurd i2 (by decide)
          have hsl : 0 < ss.length := by omega
          have hq := Nat.mod_lt k hsl
          have hqm : IntKind.i64.wrap (Int.tmod (k : Int) (ss.length : Int)) = ((k % ss.length : Nat) : Int) := by
            rw [Int.tmod_eq_emod_of_nonneg (by omega), ← Int.natCast_emod]
            exact IntWalk.i64_in _ (by have := HL.out; omega)
          obtain ⟨ds, hls, hcu⟩ := WC.out.out
          have c0 := (hac.below hls.below hbb) k hlt
          have s0 := (hsc.below hls.below hsb) (k % ss.length) hq
          have e1 : bs.getD k ⟨#[]⟩ = bs[k] := by rw [List.getD_eq_getElem?_getD, List.getElem?_eq_getElem hlt]; rfl
          have e2 : sizeOf2 ss k = ss[k % ss.length] := by unfold sizeOf2; rw [List.getD_eq_getElem?_getD, List.getElem?_eq_getElem hq]; rfl
          have hsr := HSB.out _ (List.getElem_mem hq)
          have hbr := HBB.out _ (List.getElem_mem hlt)
          have htot := tot_le k WC.out.fits
          have hts : tot bs (k + 1) = tot bs k + bs[k].size := by rw [tot, e1]
          have hcs := cuts_succ bs ss k
          have hfs := @fits_succ bs ss k WC.out.fits
          rw [e1, e2] at hfs hcs
          obtain ⟨x, hx⟩ : ∃ x, bs[k] = x := ⟨_, rfl⟩
          obtain ⟨n, hn⟩ : ∃ n, ss[k % ss.length] = n := ⟨_, rfl⟩
          obtain ⟨q, hqe⟩ : ∃ q, k % ss.length = q := ⟨_, rfl⟩
          obtain ⟨T, hT⟩ : ∃ T, tot bs k = T := ⟨_, rfl⟩
          rw [hx] at c0 hcs hfs hts hbr
          rw [hn] at s0 hcs hfs hsr
          rw [hqe] at s0 hq hqm
          have hq2 : (k : Int) % (ss.length : Int) = (q : Int) := by rw [← hqe]; rfl
          rw [hT] at htot hts
          rw [hT]
          rw [← hcu] at hcs
          have LS := Lib.hid hls
          have HTS := Lib.hid hts
          have HCS := Lib.hid hcs
          have HFS := Lib.hid hfs
          have HLT := Lib.hid hlt
          have HLD : Hid (ds.length = k) := Lib.hid (by have := congrArg List.length hcu; rw [cuts_len] at this; simpa [lls] using this)
          have hk1 : (k : Int) < (bs.length : Int) := by omega
          have hk0 : (0 : Int) ≤ (k : Int) := by omega
          have hk2 : (k : Int) + 1 ≤ 1000 := by omega
          have hq0 : (0 : Int) ≤ (q : Int) := by omega
          have hq1 : (q : Int) < (ss.length : Int) := by omega
          have ht2 : T ≤ 1000 := by omega
          clear hls hcu hac hsc hfs hcs hx hn hT htot hts e1 e2 WC hq hlt hbz
          have AWK : ∀ wx, Below wr.heap.size wr wx → Calls Try.prog 7 #[] wx fun e w' => e = .returned (.bool true) ∧ Below w.heap.size w w' := fun wx hb => (AW.out wx).mono fun e w' h => ⟨h.1, (LS.out.below.trans (hb.mono LS.out.below.size)).trans (h.2.mono (by have := LS.out.below.size; have := hb.size; omega))⟩
          have HAWK := Lib.hid AWK
          clear AWK
          by_cases j1 : 100 < (x.size : Int)
          · go_wp2_with (go_at_call 7; refine (HAWK.out _ (Below.refl _ _)).mono ?_; rintro e w9 ⟨rfl, hb9⟩; have B9 := Lib.hid hb9; clear hb9)
            go_ret
            exact ⟨rfl, B9.out⟩
          by_cases j2 : n < 1
          · go_wp2_with (go_at_call 7; refine (HAWK.out _ (Below.refl _ _)).mono ?_; rintro e w9 ⟨rfl, hb9⟩; have B9 := Lib.hid hb9; clear hb9)
            go_ret
            exact ⟨rfl, B9.out⟩
          by_cases j3 : 100 < n
          · go_wp2_with (go_at_call 7; refine (HAWK.out _ (Below.refl _ _)).mono ?_; rintro e w9 ⟨rfl, hb9⟩; have B9 := Lib.hid hb9; clear hb9)
            go_ret
            exact ⟨rfl, B9.out⟩
          have HFS := Lib.hid (HFS.out (by omega) (by omega) (by omega))
          have CN := Lib.hid fun wx => cut_new ((k : Int) + 1) x n wx (by unfold msgB; rw [num_ok (by omega), decide_eq_true (by omega)]; rfl) (by unfold sizeB; rw [decide_eq_true (by omega), decide_eq_true (by omega)]; rfl)
          have ht3 : (x.size : Int) ≤ 100 := by omega
          clear HAWK
          go_wp2_with (first
            | (go_at_call 26; refine (CN.out _).mono ?_; rintro e w3 ⟨⟨da, dl, dc⟩, hd, rfl, hok, hnew, hb3⟩; have HD := Lib.hid hd; have DK := Lib.hid hok; have DN := Lib.hid hnew; have LS3 := Lib.hid (LS.out.later hb3); clear hd hok hnew hb3)
            | (at_builtin; refine wpList_sl LS3.out ⟨da, dl, dc⟩ DK.out.lt (fun g hg b off ha _ e => by have := DN.out b off ha; have := (LS.out.own.lt g hg).2; omega) (by rfl) _ _ (by rfl) (by rfl) _ (by rfl) (by rfl) (by have := HLD.out; omega) ?_; intro v' w4 h4; have LS4 := Lib.hid h4; clear h4))
          exact ⟨⟨k + 1, by go_num, HLT.out, by rw [HTS.out]; rfl, ⟨_, LS4.out, by rw [HCS.out, ← HD.out]; simp [lls]⟩, HFS.out⟩, by simp [intOf]; have := HLT.out; omega⟩
        · obtain rfl : k = bs.length := by omega
          obtain ⟨ds, hls, hcu⟩ := WC.out.out
          obtain ⟨aw, cw, rfl, hll⟩ := hls.ll
          have W2 := Lib.hid hls.below
          have hld : ds.length = bs.length := by have := congrArg List.length hcu; rw [cuts_len] at this; simpa [lls] using this
          have hsm : ∀ d ∈ ds, d.l.length ≤ 1000 := fun d hd => by
            have : d.l ∈ cuts bs ss bs.length := by rw [← hcu]; exact List.mem_map_of_mem hd
            obtain ⟨i, hi, he⟩ := cuts_at this
            have h1 := (WC.out.fits i hi).1
            have h2 := cutL_len ((i : Int) + 1) (bs.getD i ⟨#[]⟩) (sizeOf2 ss i)
            rw [he]
            omega
          have WE := Lib.hid (weave_any aw to cw tc ds ts wr hll (HT.out.below W2.out) (by omega) hsm (by omega) HTB.out)
          rw [hcu] at WE
          rw [hld] at WE
          obtain ⟨he0, A, hA, hall⟩ := cuts_all (by omega) (by omega) WC.out.fits HAN.out
          have hAl : A.length = bs.length := by rw [hA.length_eq]; unfold nums; simp
          rw [he0] at WE
          obtain ⟨L, hL⟩ : ∃ L, wvL (cuts bs ss bs.length) ts = L := ⟨_, rfl⟩
          rw [hL] at WE hall
          have htl := tot_le bs.length WC.out.fits
          obtain ⟨T, hT⟩ : ∃ T, tot bs bs.length = T := ⟨_, rfl⟩
          rw [hT] at hall htl
          rw [hT]
          have FA := Lib.hid fun wx ax cx (hx : RowAt wx ax L) => fall_any ax cx L bs.length ((T : Int) + 1) wx hx
          rw [hall] at FA
          unfold AllP at FA
          simp only [List.length_map] at FA
          rw [hAl] at FA
          have HA := Lib.hid hA
          have HAL := Lib.hid hAl
          have ht2 : T ≤ 1000 := by omega
          clear hls hll hcu hsm he0 hL hall hT htl WC hA hAl hlt hk
          obtain ⟨i4, hi4, hz4, hz5, hz6⟩ := info_parts info4
          go_wp2_with (first
            | (go_at_call 27; refine WE.out.mono ?_; rintro e w3 ⟨⟨da, dl, dc⟩, hd, rfl, hok, hb3⟩; have W3 := Lib.hid (W2.out.trans (hb3.mono W2.out.size)); obtain rfl : dl = L := hd; have RA := Lib.hid hok.row; clear hok hb3)
            | (go_at_call 23; refine (FA.out _ _ _ RA.out).mono ?_; rintro e w4 ⟨a1, c1, a2, c2, rfl, hi, htx, hb4⟩; have W4 := Lib.hid (W3.out.trans (hb4.mono W3.out.size)); have IA := Lib.hid hi; have TA := Lib.hid htx; clear hi htx hb4)
            | (at_make; refine wpList_make_full _ (by rfl) _ _ 56 (by rfl) w4.heap.size 4 i4 (.bool false) 1 under56 hi4 hz4 hz5 .i64 .i64 _ _ bs.length (by rfl) (by rfl) (by rfl) (by rfl) (by rw [hz6]; omega) (by unfold maxLen; omega) (Nat.le_refl _) ?_; intro w5 ho5 hg5; have MT := Lib.hid (MtI.start (A := A) ho5 hg5); clear ho5 hg5))
          go_loopw [145] (fun i wr => ∃ k : Nat, i = .int .i64 k ∧ k ≤ bs.length ∧ MtI w4 wr w4.heap.size bs.length A k) (fun i _ => bs.length - (intOf i).toNat)
          case atStart => exact ⟨0, rfl, Nat.zero_le _, MT.out⟩
          case round =>
            obtain ⟨k, rfl, hk, hmt⟩ := hrel
            have MK := Lib.hid hmt
            clear hmt MT
            by_cases hlt : k < bs.length
            rotate_left 1
            · obtain rfl : k = bs.length := by omega
              have W5 := Lib.hid (W4.out.trans (MK.out.below.mono W4.out.size))
              go_wp2_with (go_at_call 7; refine (AW.out _).mono ?_; rintro e w9 ⟨rfl, hb9⟩; have B9 := Lib.hid (W5.out.trans (hb9.mono W5.out.size)); clear hb9)
              go_ret
              exact ⟨rfl, B9.out⟩
            have hlA : k < A.length := by rw [HAL.out]; exact hlt
            have hbm := MK.out.below
            have hs4 := W4.out.size
            rcases HB.out with h0 | ⟨bb, off, rfl, hbb, hac⟩
            · subst h0; exact absurd hlt (by simp)
            rcases IA.out with h0 | ⟨ib, iof, rfl, hib, hic⟩
            · subst h0; exact absurd hlA (by simp)
            rcases TA.out with h0 | ⟨tb, rfl, htb, htc⟩
            · rw [List.map_eq_nil_iff.1 h0] at hlA; exact absurd hlA (by simp)
            have a0 := (hic.below hbm hib) k hlA
            obtain ⟨g1, g2⟩ := mem_nums.1 (HA.out.mem_iff.1 (List.getElem_mem hlA))
            obtain ⟨j, hj⟩ : ∃ j : Nat, A[k] = (j : Int) + 1 := ⟨(A[k] - 1).toNat, by omega⟩
            have hjn : j < bs.length := by omega
            have t0 := (hbm.cell (p := ⟨tb, k, none⟩) htb).trans (htc k (by rw [List.length_map]; exact hlA))
            rw [List.getElem_map, hj] at t0
            have eb : bodyOf bs ((j : Int) + 1) = bs[j] := by
              unfold bodyOf
              rw [show ((j : Int) + 1 - 1).toNat = j by omega, List.getD_eq_getElem?_getD, List.getElem?_eq_getElem hjn]
              rfl
            rw [eb] at t0
            have b0 := (((hac.below W4.out hbb).below hbm (by omega)) j hjn)
            have m0 := MK.out.row j hjn
            have hnm := not_met (HA.out.nodup_iff.2 (nums_nodup _)) hlA
            rw [hj] at hnm a0
            rw [decide_eq_false hnm] at m0
            have l0 := MK.out.live j hjn
            have MS := Lib.hid (fun wx (hx : Below wr.heap.size wr wx) => (MK.out.later hx (World.block_lt_of_cell? _ _ m0)).set hlA hjn hj)
            have HLT := Lib.hid hlt
            obtain ⟨y, hy⟩ : ∃ y, bs[j] = y := ⟨_, rfl⟩
            rw [hy] at t0 b0
            have hk1 : (k : Int) < (bs.length : Int) := by omega
            have hk0 : (0 : Int) ≤ (k : Int) := by omega
            have hk2 : (k : Int) + 1 ≤ 1000 := by omega
            have hj1 : (j : Int) + 1 ≤ (bs.length : Int) := by omega
            have hj3 : ¬ ((j : Int) + 1 < 1) := by omega
            have hj4 : ¬ ((bs.length : Int) < (j : Int) + 1) := by omega
            have hj2 : (j : Int) + 1 - 1 = (j : Int) := by omega
            have hj0 : (0 : Int) ≤ (j : Int) := by omega
            have hj5 : (j : Int) < (bs.length : Int) := by omega
            clear hlA hbm hs4 hac hic htc g1 g2 hj hjn eb hnm hy hlt hk HB IA TA MK HA HAL
            have hgl := World.block_lt_of_cell? _ _ m0
            have hwr : IntKind.i64.wrap ((j : Int) + 1 - 1) = (j : Int) := by rw [hj2]; exact IntWalk.i64_in _ (by omega)
            have e1 : decide ((j : Int) + 1 < 1) = false := decide_eq_false hj3
            have e2 : decide ((bs.length : Int) < (j : Int) + 1) = false := decide_eq_false hj4
            have M0 := Lib.hid m0
            have L0 := Lib.hid l0
            have HGL := Lib.hid hgl
            go_wp2_with fail
            have mq := cell_regrown m0
            have tq := cell_regrown t0
            have bq := cell_regrown b0
            clear m0 t0 b0 l0 a0 hgl
            refine wp_region_quiet_below (by kernel_rfl) (by kernel_rfl) ?_
            repeat (go_big_quiet_step (fail))
            refine wpQuiet_nil ?_
            intro _ hw'
            obtain ⟨⟨dq, osq⟩, hw''⟩ := hw'
            subst hw''
            have B6 := Lib.hid (below_regrown wr dq osq)
            clear mq tq bq
            obtain ⟨w6, hw6⟩ : ∃ x, grow (redrawn wr dq) osq = x := ⟨_, rfl⟩
            rw [hw6] at B6 ⊢
            clear hw6
            have m6 := (B6.out.cell (p := ⟨w4.heap.size, j, none⟩) HGL.out).trans M0.out
            have l6 := (World.frozen?_of_block (a := ⟨w4.heap.size, j, none⟩) (B6.out.block _ HGL.out)).trans L0.out
            go_wp2_with fail
            exact ⟨⟨k + 1, by go_num, HLT.out, MS.out _ B6.out⟩, by simp [intOf]; have := HLT.out; omega⟩

end Go.Proofs.Yteblbpdpfegooaa
