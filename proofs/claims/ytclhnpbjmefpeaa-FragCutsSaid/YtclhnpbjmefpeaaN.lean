/- The contract of the reference's Weave. -/
import Derived.Test.YtclhnpbjmefpeaaM
namespace Go.Proofs.Ytclhnpbjmefpeaa
open Go.RowKit Go.BigFrame

set_option maxRecDepth 100000 in
set_option maxHeartbeats 16000000 in
theorem rweave_any (ao to : Option Addr) (cap tc : Nat) (ds : List SlD) (ts : List Int) (w : World) (h : LlAt w ao ds cap) (ht : IntRow w to ts) (hl : ds.length ≤ 200) (hll : ∀ d ∈ ds, d.l.length ≤ 1000) (hts : ts.length ≤ 1000000) :
    Calls Try.prog 20 #[.slice ao ds.length cap, .slice to ts.length tc] w (RowPost w (wvL (lls ds) ts) (wvE (lls ds) ts)) := by
  have HR := Lib.hid h
  have HTR := Lib.hid ht
  have HLL := Lib.hid hll
  have hlen : (lls ds).length = ds.length := by simp [lls]
  have HLEN := Lib.hid hlen
  have HDL := Lib.hid hl
  have HTS := Lib.hid hts
  have hbd : ∀ k, total ((lls ds).take k) ≤ 200000 := fun k => by
    have h1 := total_take (lls ds) k
    have h2 := total_bound (S := lls ds) (n := 1000) (fun x hx => by obtain ⟨d, hd, rfl⟩ := List.mem_map.1 hx; exact hll d hd)
    rw [hlen] at h2
    omega
  have HBD := Lib.hid hbd
  clear h ht hll hlen hl hts hbd
  go_enter Try.func20, Try.ntmps20
  go_wp2_with fail
  go_loopw [6, 19] (fun v i wr => ∃ k : Nat, i = .int .i64 k ∧ k ≤ ds.length ∧ wr.ownsRow w.heap.size 36 4 v (flat ((lls ds).take k)).length (pcCells (flat ((lls ds).take k))) ∧ Below w.heap.size w wr) (fun _ i _ => ds.length - (intOf i).toNat)
  case atStart => exact ⟨0, rfl, Nat.zero_le _, World.ownsRow_nil _ _ _ _, Below.refl _ _⟩
  case round =>
    obtain ⟨k, rfl, hk, hown, hbel⟩ := hrel
    have HB := Lib.hid hbel
    have HO := Lib.hid hown
    have hk2 : (k : Int) ≤ 200 := by have := HDL.out; omega
    have hk0 : (0 : Int) ≤ (k : Int) := by omega
    by_cases hlt : k < ds.length
    · clear hbel hown
      have hL := (HR.out.below HB.out)
      rcases hL.row with h0 | ⟨b, off, rfl, hb, hp⟩
      · subst h0; exact absurd hlt (by simp)
      have c0 := hp k hlt
      have hdm : ds[k] ∈ ds := List.getElem_mem hlt
      have hdl := HLL.out _ hdm
      have hok := hL.ok _ hdm
      have HSK : Hid (flat ((lls ds).take (k + 1)) = flat ((lls ds).take k) ++ ds[k].l) := Lib.hid (by rw [flat_take _ _ (by rw [HLEN.out]; exact hlt)]; simp [lls])
      obtain ⟨d, hd⟩ : ∃ d, ds[k] = d := ⟨_, rfl⟩
      rw [hd] at c0 hdl hok HSK
      obtain ⟨da, dl, dc⟩ := d
      unfold SlD.v at c0
      simp only at c0 hdl HSK
      have hk1 : (k : Int) < (ds.length : Int) := by omega
      have HDD := Lib.hid hdl
      have HOK := Lib.hid hok
      have HLT := Lib.hid hlt
      have HFL : Hid ((flat ((lls ds).take k)).length ≤ 1000000) := Lib.hid (by rw [flat_len]; have := HBD.out k; omega)
      clear hL hp hdm hdl hok hd hlt
      go_wp2_with (at_builtin; refine append_row rfl _ _ rfl w.heap.size _ (flat ((lls ds).take k)) rfl HO.out ⟨da, dl, dc⟩ HOK.out rfl HFL.out (by have := HDD.out; simp only; omega) HB.out.size ?_; intro v' w3 hown3 hgrow3; have HO3 := Lib.hid hown3; have HB3 := Lib.hid (below_grown HB.out HO.out hgrow3 (Nat.le_refl _)); clear hown3 hgrow3)
      exact ⟨⟨k + 1, by go_num, HLT.out, by rw [HSK.out]; exact HO3.out, HB3.out⟩, by simp [intOf]; have := HLT.out; omega⟩
    · obtain rfl : k = ds.length := by omega
      have htk : (lls ds).take ds.length = lls ds := by rw [← HLEN.out, List.take_length]
      rw [htk] at hown
      obtain ⟨aa, ac, rfl, hrow⟩ := row_of_own hown
      have hfl := HBD.out ds.length
      rw [htk, ← flat_len] at hfl
      have PC := Lib.hid (rpieces_any aa ac (flat (lls ds)) wr hrow (by omega))
      rw [flat_ok] at PC
      have HFL := Lib.hid hfl
      obtain ⟨fl, hfln⟩ : ∃ fl, (flat (lls ds)).length = fl := ⟨_, rfl⟩
      rw [hfln] at PC
      rw [hfln]
      have HTOT : Hid (fl = total (lls ds)) := Lib.hid (by rw [← hfln, flat_len])
      clear hbel hown hrow hfl HO htk hfln hlt hk
      cases hg : goodL (lls ds)
      · have H1 : Hid (wvE (lls ds) ts = 1) := Lib.hid (by unfold wvE; rw [if_neg (by rw [hg]; decide)])
        have H2 : Hid (wvL (lls ds) ts = []) := Lib.hid (by unfold wvL; rw [H1.out]; rfl)
        rw [hg] at PC
        clear hg
        go_wp2_with (go_at_call 33; refine PC.out.mono ?_; rintro e w2 ⟨rfl, hb2⟩; have B2 := Lib.hid (HB.out.trans (hb2.mono HB.out.size)); clear hb2)
        go_ret2
        rw [H1.out, H2.out]
        exact RowPost.nil rfl rfl B2.out
      rw [hg] at PC
      have HGL := Lib.hid hg
      clear hg
      by_cases h1 : 1 ≤ ds.length
      case neg =>
        have H1 : Hid (wvE (lls ds) ts = 7) := Lib.hid (by unfold wvE; rw [if_pos HGL.out, if_neg (by rw [HLEN.out]; omega)])
        have H2 : Hid (wvL (lls ds) ts = []) := Lib.hid (by unfold wvL; rw [H1.out]; rfl)
        have e1 : decide ((ds.length : Int) < 1) = true := decide_eq_true (by omega)
        have e2 : (ds.length : Int) < 1 := by omega
        clear h1
        go_wp2_with (go_at_call 33; refine PC.out.mono ?_; rintro e w2 ⟨rfl, hb2⟩; have B2 := Lib.hid (HB.out.trans (hb2.mono HB.out.size)); clear hb2)
        go_ret2
        rw [H1.out, H2.out]
        exact RowPost.nil rfl rfl B2.out
      have e1 : decide ((ds.length : Int) < 1) = false := decide_eq_false (by omega)
      have e1n : ¬ (ds.length : Int) < 1 := by omega
      by_cases h2 : ds.length ≤ 100
      case neg =>
        have H1 : Hid (wvE (lls ds) ts = 7) := Lib.hid (by unfold wvE; rw [if_pos HGL.out, if_neg (by rw [HLEN.out]; omega)])
        have H2 : Hid (wvL (lls ds) ts = []) := Lib.hid (by unfold wvL; rw [H1.out]; rfl)
        have e2 : decide ((100 : Int) < (ds.length : Int)) = true := decide_eq_true (by omega)
        have e2n : (100 : Int) < (ds.length : Int) := by omega
        clear h1 h2
        go_wp2_with (go_at_call 33; refine PC.out.mono ?_; rintro e w2 ⟨rfl, hb2⟩; have B2 := Lib.hid (HB.out.trans (hb2.mono HB.out.size)); clear hb2)
        go_ret2
        rw [H1.out, H2.out]
        exact RowPost.nil rfl rfl B2.out
      have e2 : decide ((100 : Int) < (ds.length : Int)) = false := decide_eq_false (by omega)
      have e2n : ¬ (100 : Int) < (ds.length : Int) := by omega
      have HD1 := Lib.hid h1
      have HD2 := Lib.hid h2
      clear h1 h2
      go_wp2_with (go_at_call 33; refine PC.out.mono ?_; rintro e w2 ⟨rfl, hb2⟩; have B2 := Lib.hid (HB.out.trans (hb2.mono HB.out.size)); clear hb2)
      go_loopw [40] (fun i wr => ∃ k : Nat, i = .int .i64 k ∧ k ≤ ts.length ∧ goodTo negOk ts k ∧ w2 = wr) (fun i _ => ts.length - (intOf i).toNat)
      case atStart => exact ⟨0, rfl, Nat.zero_le _, (fun i h => absurd h (Nat.not_lt_zero i)), rfl⟩
      case round =>
        obtain ⟨k, rfl, hk, hok, rfl⟩ := hrel
        have HK := Lib.hid hok
        clear hok
        by_cases hlt : k < ts.length
        · rcases HTR.out.below B2.out with h0 | ⟨b0, off, rfl, hb, hp⟩
          · subst h0; exact absurd hlt (by simp)
          have c0 := hp k hlt
          obtain ⟨p, hpp⟩ : ∃ p, ts[k] = p := ⟨_, rfl⟩
          rw [hpp] at c0
          have HPP := Lib.hid hpp
          have hk1 : (k : Int) < (ts.length : Int) := by omega
          have hk3 : (k : Int) ≤ 1000000 := by have := HTS.out; omega
          have hk4 : (0 : Int) ≤ (k : Int) := by omega
          have HLT := Lib.hid hlt
          clear hpp hp
          by_cases hneg : p < 0
          · have hbad : allN ts = false := all_bad hlt (by rw [HPP.out]; exact decide_eq_false (by omega))
            have H1 : Hid (wvE (lls ds) ts = 7) := Lib.hid (by unfold wvE; rw [if_pos HGL.out, if_neg (by rw [hbad]; simp)])
            have H2 : Hid (wvL (lls ds) ts = []) := Lib.hid (by unfold wvL; rw [H1.out]; rfl)
            have e5 : decide (p < 0) = true := decide_eq_true hneg
            clear hbad
            go_wp2_with fail
            go_ret2
            rw [H1.out, H2.out]
            exact RowPost.nil rfl rfl B2.out
          · have e5 : decide (p < 0) = false := decide_eq_false hneg
            have HN0 : Hid (negOk p = true) := Lib.hid (decide_eq_true (by omega))
            go_wp2_with fail
            exact ⟨⟨k + 1, by go_num, HLT.out, HK.out.snoc fun _ => by rw [HPP.out]; exact HN0.out, by first | rfl | trivial⟩, by simp [intOf]; have := HLT.out; omega⟩
        · obtain rfl : k = ts.length := by omega
          have hN : allN ts = true := good_all HK.out
          obtain ⟨all, hall⟩ : ∃ all, wv (ts.map Int.toNat) (lls ds) = all := ⟨_, rfl⟩
          have H1 : Hid (wvE (lls ds) ts = 0) := Lib.hid (wvE_ok HGL.out (by rw [HLEN.out]; exact HD1.out) (by rw [HLEN.out]; exact HD2.out) hN)
          have H2 : Hid (wvL (lls ds) ts = all) := Lib.hid (by unfold wvL; rw [H1.out, if_pos rfl]; exact hall)
          have HALL := Lib.hid hall
          have HN := Lib.hid hN
          have hfl2 : (fl : Int) ≤ 200000 := by have := HFL.out; rw [flat_len] at this; have := HTOT.out; omega
          clear hN hall hlt hk
          have hmk := fun W : World => run_make_row' (P := Try.prog) 22 3 (.int .i64 0) 8 under22 infoInt rfl .i64 .i64 ds.length (by have := HDL.out; omega) (by have := HDL.out; omega) W
          obtain ⟨i0, hi, hz0, hz1, hz2⟩ := info_parts infoPc
          obtain ⟨i3, hi3, hy0, hy1, hy2⟩ := info_parts infoInt
          go_wp2_with fail
          have hst : RvI w w2.heap.size (lls ds) (List.replicate ds.length 0) [] (.slice none 0 0) (w2.alloc (.cells (madeCells #[.int .i64 0] ds.length) 3)) := by
            refine ⟨B2.out.trans (((Below.refl _ _).alloc (Nat.le_refl _) _).mono B2.out.size), ?_, World.ownsRow_nil _ _ _ _, by rw [List.length_replicate, HLEN.out]⟩
            rw [heap_alloc_new, made_nat]
          obtain ⟨NB, hNB⟩ : ∃ NB, w2.heap.size = NB := ⟨_, rfl⟩
          rw [hNB] at hst ⊢
          obtain ⟨w3, hw3⟩ : ∃ w3, w2.alloc (.cells (madeCells #[.int .i64 0] ds.length) 3) = w3 := ⟨_, rfl⟩
          rw [hw3] at hst
          rw [show w2.alloc (Obj.cells (madeCells #[Value.int IntKind.i64 0] ds.length) 3) = w3 from hw3]
          have hwNB : w.heap.size ≤ NB := by rw [← hNB]; exact B2.out.size
          have HST := Lib.hid hst
          clear hst hw3 hNB hmk
          go_loopw [12, 13] (fun v i wr => ∃ (j : Nat) (ns : List Nat) (pre : List Pc), i = .int .i64 j ∧ pre.length = j ∧ RvI w NB (lls ds) ns pre v wr ∧ pre ++ wv ((ts.map Int.toNat).drop j) (sufs (lls ds) ns) = all ∧ j + total (sufs (lls ds) ns) = fl) (fun v _ _ => fl - (match v with | .slice _ n _ => n | _ => 0))
          case atStart => exact ⟨0, _, [], rfl, rfl, HST.out, by rw [← HLEN.out, sufs_zero]; exact HALL.out, by rw [← HLEN.out, sufs_zero, HTOT.out, Nat.zero_add]⟩
          case round =>
            obtain ⟨j, ns, pre, rfl, rfl, hrv, hso, hsum⟩ := hrel
            obtain ⟨wo, rfl⟩ : ∃ wo : World, wo = wr := ⟨_, rfl⟩
            have HRV := Lib.hid hrv
            have HSO := Lib.hid hso
            have HSUM := Lib.hid hsum
            obtain ⟨oa, oc, rfl⟩ := sl_len hrv.own
            have hpl : pre.length ≤ fl := by omega
            have HPL : Hid (pre.length ≤ 200000) := Lib.hid (by omega)
            have hp5 : (pre.length : Int) ≤ 200000 := by omega
            have HNL := Lib.hid hrv.len
            have hnb := (Array.getElem?_eq_some_iff.1 hrv.next).1
            clear hrv hso hsum
            by_cases hmore : pre.length < fl
            · have hne : ne (sufs (lls ds) ns) ≠ [] := fun e => by have := sufs_total _ _ e; have := HSUM.out; omega
              have HNE := Lib.hid hne
              have k1 : decide (pre.length < fl) = true := decide_eq_true hmore
              have HMORE := Lib.hid hmore
              clear hne hpl hmore
              go_wp2_with fail
              go_loopw [14, 59] (fun lv ki wr => ∃ k : Nat, ki = .int .i64 k ∧ k ≤ ds.length ∧ NlI wo wr (nz ((sufs (lls ds) ns).take k) 0) lv) (fun _ ki _ => ds.length - (intOf ki).toNat)
              case atStart => exact ⟨0, rfl, Nat.zero_le _, World.ownsRow_nil _ _ _ _, Below.refl _ _⟩
              case round =>
                obtain ⟨k, rfl, hk, hnl⟩ := hrel
                have HN4 := Lib.hid hnl
                have hk2 : (k : Int) ≤ 200 := by have := HDL.out; omega
                have hk0 : (0 : Int) ≤ (k : Int) := by omega
                by_cases hlt : k < ds.length
                · have hL := (HR.out.below HRV.out.below).below hnl.below
                  rcases hL.row with h0 | ⟨b, off, rfl, hb, hp⟩
                  · subst h0; exact absurd hlt (by simp)
                  have c0 := hp k hlt
                  have hkS : k < (lls ds).length := by rw [HLEN.out]; exact hlt
                  have hkN : k < ns.length := by rw [HNL.out]; exact hkS
                  have hnx := next_at ((hnl.below.block NB hnb).trans HRV.out.next) hkN
                  have hat := sufs_at (lls ds) ns k hkS hkN
                  have hlk : (lls ds)[k] = ds[k].l := by simp [lls]
                  have hsl : k < (sufs (lls ds) ns).length := by rw [sufs_len _ _ HNL.out]; exact hkS
                  have hnt := nz_take (sufs (lls ds) ns) k hsl
                  have hgl : ((sufs (lls ds) ns)[k]).length = ds[k].l.length - ns[k] := by
                    rw [List.getElem?_eq_getElem hsl] at hat
                    rw [Option.some.inj hat, List.length_drop, hlk]
                  rw [hgl] at hnt
                  obtain ⟨nk, hnk⟩ : ∃ nk, ns[k] = nk := ⟨_, rfl⟩
                  rw [hnk] at hnx hnt
                  obtain ⟨d, hd⟩ : ∃ d, ds[k] = d := ⟨_, rfl⟩
                  rw [hd] at c0 hnt
                  obtain ⟨da, dl, dc⟩ := d
                  unfold SlD.v at c0
                  simp only at c0 hnt
                  have hk1 : (k : Int) < (ds.length : Int) := by omega
                  have HNT := Lib.hid hnt
                  have HLT := Lib.hid hlt
                  have HLEN4 : Hid ((nz ((sufs (lls ds) ns).take k) 0).length ≤ 200) := Lib.hid (by rw [nz_len]; have h9 : (ne ((sufs (lls ds) ns).take k)).length ≤ ((sufs (lls ds) ns).take k).length := List.length_filter_le _ _; rw [List.length_take] at h9; have := HDL.out; omega)
                  by_cases hcmp : nk < dl.length
                  · have k4 : decide (nk < dl.length) = true := decide_eq_true hcmp
                    have hnt2 := hnt
                    rw [if_neg (by omega)] at hnt2
                    have HNT2 := Lib.hid hnt2
                    clear hL hp hkS hkN hat hlk hsl hnt hgl hnk hd hnl hlt hnt2 hcmp
                    go_wp2_with fail
                    go_quiet (fail)
                    rename Nat => dq
                    have HN5 := Lib.hid (HN4.out.later (below_drewN' wr dq))
                    go_wp2_with (at_builtin; refine wpList_append_own_at _ rfl _ _ 22 rfl wo.heap.size 3 i3 (.int .i64 0) 1 8 under22 hi3 hy0 hy1 hy2 rfl (by decide) _ _ _ rfl (HN5.out.own.alloc _) ⟨wr.heap.size, 0, none⟩ 1 1 [.int .i64 (k : Int)] rfl rfl (cell_int_new (heap_alloc_new _ _)) (by simp [Value.oneCell']) (by have := HLEN4.out; unfold maxLen; omega) (by have := HLEN4.out; omega) (by have := HN4.out.below.size; simp; omega) ?_; intro v' w7 hown' hgrow _ _; have HN7 := Lib.hid (NlI.grown (HN5.out.later ((Below.refl _ _).alloc (Nat.le_refl _) _)) hgrow hown'); clear hown' hgrow)
                    exact ⟨⟨k + 1, by go_num, HLT.out, by rw [HNT2.out]; exact HN7.out⟩, by simp [intOf]; have := HLT.out; omega⟩
                  · have k4 : decide (nk < dl.length) = false := decide_eq_false hcmp
                    have hnt2 := hnt
                    rw [if_pos (by omega), List.append_nil] at hnt2
                    have HNT2 := Lib.hid hnt2
                    clear hL hp hkS hkN hat hlk hsl hnt hgl hnk hd hnl hlt hnt2 hcmp
                    go_wp2_with fail
                    go_quiet (fail)
                    rename Nat => dq
                    have HN5 := Lib.hid (HN4.out.later (below_drewN' wr dq))
                    go_wp2_with fail
                    exact ⟨⟨k + 1, by go_num, HLT.out, by rw [HNT2.out]; exact HN5.out⟩, by simp [intOf]; have := HLT.out; omega⟩
                · obtain rfl : k = ds.length := by omega
                  have htk : (sufs (lls ds) ns).take ds.length = sufs (lls ds) ns := List.take_of_length_le (by rw [sufs_len _ _ HNL.out, HLEN.out]; exact Nat.le_refl _)
                  rw [htk] at hnl
                  obtain ⟨t, ht⟩ : ∃ t, ((ts.map Int.toNat).drop pre.length).headD 0 = t := ⟨_, rfl⟩
                  obtain ⟨kk, hk1, hk2, hk3, hkz, hstep⟩ := ref_step (lls ds) ns HNL.out t HNE.out
                  have hstp := hstep _ ht
                  rw [List.tail_drop] at hstp
                  obtain ⟨nl, hnln⟩ : ∃ nl, nz (sufs (lls ds) ns) 0 = nl := ⟨_, rfl⟩
                  have hll4 : nl.length ≤ 200 := by
                    rw [← hnln, nz_len]
                    have h9 : (ne (sufs (lls ds) ns)).length ≤ (sufs (lls ds) ns).length := List.length_filter_le _ _
                    rw [sufs_len _ _ HNL.out, HLEN.out] at h9
                    have := HDL.out
                    omega
                  rw [hnln] at hnl hkz
                  obtain ⟨hix, hixk⟩ := List.getElem?_eq_some_iff.1 hkz
                  obtain ⟨g, lcap, rfl, _, _⟩ := hnl.own.form (by omega)
                  have hcs := fun i (hi : i < nl.length) => (hnl.own.cells (g := g) rfl i (.int .i64 (nl[i] : Int)) (by unfold natCells; rw [List.getElem?_map, List.getElem?_eq_getElem hi]; rfl))
                  have z0 := hcs 0 (by omega)
                  have z1 := hcs _ hix
                  rw [hixk] at z1
                  rw [add_none] at z0 z1
                  rw [Nat.zero_add] at z0 z1
                  obtain ⟨k0, hk0n⟩ : ∃ k0, nl[0]'(by omega) = k0 := ⟨_, rfl⟩
                  rw [hk0n] at z0
                  obtain ⟨idx, hidx⟩ : ∃ idx, t % nl.length = idx := ⟨_, rfl⟩
                  rw [hidx] at z1 hix
                  have hL := (HR.out.below HRV.out.below).below hnl.below
                  have hkd : kk < ds.length := by rw [HLEN.out] at hk1; exact hk1
                  rcases hL.row with h0 | ⟨b, off, rfl, hb, hp⟩
                  · subst h0; exact absurd hkd (by simp)
                  have c0 := hp kk hkd
                  have hok := hL.ok _ (List.getElem_mem hkd)
                  have hlk : (lls ds)[kk] = ds[kk].l := by simp [lls]
                  have hnx := next_at ((hnl.below.block NB hnb).trans HRV.out.next) hk2
                  obtain ⟨nk, hnk⟩ : ∃ nk, ns[kk] = nk := ⟨_, rfl⟩
                  obtain ⟨p, hp0⟩ : ∃ p, (lls ds)[kk][ns[kk]] = p := ⟨_, rfl⟩
                  rw [hp0] at hstp
                  simp only [hlk] at hp0 hk3
                  obtain ⟨d, hd⟩ : ∃ d, ds[kk] = d := ⟨_, rfl⟩
                  simp only [hd, hnk] at hp0 hk3 c0 hok hnx hstp
                  obtain ⟨da, dl, dc⟩ := d
                  unfold SlD.v at c0
                  simp only at c0 hok hp0 hk3
                  obtain ⟨pb, poff, rfl, hpb, hpc⟩ := hok.2.1.resolve_left (fun e => by simp only at e; subst e; simp at hk3)
                  simp only at hpc
                  obtain ⟨q0, q1, q2, q3⟩ := hpc nk hk3
                  rw [hp0] at q0 q1 q2 q3
                  obtain ⟨pi, pp, pm, pbd⟩ := p
                  simp only at q0 q1 q2 q3
                  obtain ⟨ll, hlln⟩ : ∃ ll, nl.length = ll := ⟨_, rfl⟩
                  rw [hlln] at hll4 hix hidx ⊢
                  have x1 : (0 : Int) < (ll : Int) := by omega
                  have x2 : ((ll : Int) == 0) = false := by simp; omega
                  have x3 : (idx : Int) < (ll : Int) := by omega
                  have x4 : (0 : Int) ≤ (idx : Int) := by omega
                  have x5 : (kk : Int) < (ds.length : Int) := by omega
                  have x6 : (0 : Int) ≤ (kk : Int) := by omega
                  have x7 : (nk : Int) < (dl.length : Int) := by omega
                  have x8 : (0 : Int) ≤ (nk : Int) := by omega
                  have x9 : (nk : Int) ≤ 1000 := by have := HLL.out _ (List.getElem_mem hkd); rw [hd] at this; simp only at this; omega
                  have HNLI := Lib.hid hnl
                  have HSTP := Lib.hid hstp
                  have HNK := Lib.hid hnk
                  have HKK := Lib.hid hk2
                  have hnb2 : NB < wr.heap.size := Nat.lt_of_lt_of_le hnb hnl.below.size
                  have HNX : Hid (wr.heap[NB]? = some (.cells (natCells ns).toArray 3 (0, 0))) := Lib.hid ((hnl.below.block NB hnb).trans HRV.out.next)
                  have HOWN : Hid (wr.ownsRow (NB + 1) 36 4 (.slice oa pre.length oc) pre.length (pcCells pre)) := Lib.hid (ownsRow_below HRV.out.own hnl.below)
                  have HK7 : Hid (∀ w7 : World, (wr.alloc (Obj.cells #[Value.int .i64 pi, Value.int .i64 pp, Value.bool pm, Value.string pbd] 36)).grownBy w7 (Value.slice oa pre.length oc).ownBlock → w7.heap[NB]? = wr.heap[NB]?) := Lib.hid fun w7 hg => (hg.block NB (by simp; omega) (fun e => by have := (HOWN.out.lt _ e.symm).1; omega)).trans (Below.heap_alloc _ _ _ hnb2)
                  have HB7 : Hid (Below w.heap.size w (wr.alloc (Obj.cells #[Value.int .i64 pi, Value.int .i64 pp, Value.bool pm, Value.string pbd] 36))) := Lib.hid ((HRV.out.below.trans (hnl.below.mono HRV.out.below.size)).trans (((Below.refl _ _).alloc (Nat.le_refl _) _).mono (Nat.le_trans HRV.out.below.size hnl.below.size)))
                  have HNB2 := Lib.hid hnb2
                  have HNX2 : Hid (wr.cell? ⟨NB, kk, none⟩ = some (.int .i64 (nk : Int))) := Lib.hid hnx
                  by_cases hjt : pre.length < ts.length
                  · rcases (HTR.out.below HRV.out.below).below hnl.below with h0 | ⟨tb, toff, rfl, htb, htp⟩
                    · subst h0; exact absurd hjt (by simp)
                    have y0 := htp pre.length hjt
                    have hge : 0 ≤ ts[pre.length] := by
                      have := List.all_eq_true.1 HN.out _ (List.getElem_mem hjt)
                      simpa [negOk] using this
                    obtain ⟨n, hn⟩ : ∃ n : Nat, ts[pre.length] = n := ⟨ts[pre.length].toNat, by omega⟩
                    rw [hn] at y0
                    have htn : n = t := by
                      rw [← ht, List.drop_eq_getElem_cons (by simpa using hjt)]
                      simp [hn]
                    have y1 : (pre.length : Int) < (ts.length : Int) := by omega
                    have y2 : decide (pre.length < ts.length) = true := decide_eq_true hjt
                    have y3 : (n : Int) % (ll : Int) = (idx : Int) := by rw [← hidx, htn]; exact (Int.natCast_emod t ll).symm
                    have y4 : (0 : Int) ≤ (n : Int) := by omega
                    clear hk3 hkz hstep hstp hnl hcs hixk hk0n hL hkd hb hp hok hlk hnk hp0 hd hpb hpc hnb2 htk hnln hlln hix hidx hlt hk HN4 hjt htb htp hge hn htn ht
                    go_wp2_with fail
                    go_region_law (first | (refine step_append_lies _ (by rfl) _ _ 24 (by rfl) (NB + 1) 36 i0 (.agg #[.int .i64 0, .int .i64 0, .bool false, .string ⟨#[]⟩]) 4 40 under24 hi hz0 hz1 hz2 (by rfl) (by decide) (.slice oa pre.length oc) pre.length (pcCells pre) (by rfl) (by exact HOWN.out.alloc (Obj.cells #[Value.int .i64 pi, Value.int .i64 pp, Value.bool pm, Value.string pbd] 36)) ⟨wr.heap.size, 0, none⟩ 1 1 [.int .i64 pi, .int .i64 pp, .bool pm, .string pbd] (by rfl) (by rfl) (by exact cell_pc_new (heap_alloc_new wr _)) (by simp [Value.oneCell']) (by decide) (by have := HPL.out; unfold maxLen; omega) (by have := HPL.out; omega) (by have := HNB2.out; simp; omega) (wr.heap.size + 1) (by simp) ?_; intro g7 cap7 w7 hown hgrow hat hlt7; have hg7 : (wr.alloc (Obj.cells #[Value.int .i64 pi, Value.int .i64 pp, Value.bool pm, Value.string pbd] 36)).grownBy w7 (Value.slice oa pre.length oc).ownBlock := ⟨hgrow.os, hgrow.tape, hgrow.output, hgrow.size, hgrow.block⟩; have hn7 := (HK7.out w7 hg7).trans HNX.out; have HO7 := Lib.hid hown; have HN7 := Lib.hid hn7; have HG7 := Lib.hid hg7; clear hown hgrow hat hlt7 hg7 hn7))
                    all_goals
                      have m1 : w7.cell? ⟨NB, kk, none⟩ = some (.int .i64 (nk : Int)) := by have := next_at HN7.out HKK.out; rw [HNK.out] at this; exact this
                      have m2 : w7.frozen? ⟨NB, kk, none⟩ = false := next_free HN7.out
                      go_wp2_with fail
                      have g8 := grownBy_cell w7 ⟨NB, kk, none⟩ (.int .i64 ((nk + 1 : Nat) : Int))
                      have own8 := HO7.out.kept g8 (.inr fun e => by have h9 : g7 = NB := Option.some.inj e; have := (HO7.out.lt g7 rfl).1; omega)
                      have hb7 : Below w.heap.size w w7 := by
                        have hb := HB7.out
                        exact ⟨HG7.out.os.trans hb.os, HG7.out.tape.trans hb.tape, HG7.out.output.trans hb.output, Nat.le_trans hb.size HG7.out.size, fun k hk => (HG7.out.block k (Nat.lt_of_lt_of_le hk hb.size) (fun e => by have := (HOWN.out.lt _ e.symm).1; omega)).trans (hb.block k hk)⟩
                      have hb8 : Below w.heap.size w (w7.setCell ⟨NB, kk, none⟩ (.int .i64 ((nk + 1 : Nat) : Int))) := ⟨g8.os.trans hb7.os, g8.tape.trans hb7.tape, g8.output.trans hb7.output, Nat.le_trans hb7.size g8.size, fun k hk => (g8.block k (Nat.lt_of_lt_of_le hk hb7.size) (fun e => by have h9 : k = NB := Option.some.inj e; omega)).trans (hb7.block k hk)⟩
                      refine ⟨⟨pre.length + 1, ns.set kk (nk + 1), pre ++ [⟨pi, pp, pm, pbd⟩], by go_num, by simp, ⟨hb8, next_set HN7.out, by rw [pcCells_snoc, List.length_append]; exact own8, by rw [List.length_set]; exact HNL.out⟩, ?_, ?_⟩, ?_⟩
                      · rw [← HSO.out, HSTP.out]; simp
                      · have h1 := congrArg List.length HSTP.out
                        rw [List.length_cons, wv_len _ _ _ rfl, wv_len _ _ _ rfl] at h1
                        have := HSUM.out
                        omega
                      · show fl - (pre.length + 1) < fl - pre.length
                        have := HMORE.out
                        omega
                  · have hte : t = 0 := by rw [← ht, List.drop_eq_nil_iff.2 (by simp; omega)]; rfl
                    have hi0 : idx = 0 := by rw [← hidx, hte, Nat.zero_mod]
                    subst hi0
                    have hkk : some (Value.int .i64 (k0 : Int)) = some (Value.int .i64 (kk : Int)) := z0.symm.trans z1
                    have hkk2 : kk = k0 := by
                      have h9 : (Value.int .i64 (k0 : Int)) = Value.int .i64 (kk : Int) := Option.some.inj hkk
                      injection h9 with _ h9
                      omega
                    subst hkk2
                    have y2 : decide (pre.length < ts.length) = false := decide_eq_false hjt
                    clear hk3 hkz hstep hstp hnl hcs hixk hk0n hL hkd hb hp hok hlk hnk hp0 hd hpb hpc hnb2 htk hnln hlln hix hidx hlt hk HN4 hjt hte hkk ht
                    go_wp2_with fail
                    go_region_law (first | (refine step_append_lies _ (by rfl) _ _ 24 (by rfl) (NB + 1) 36 i0 (.agg #[.int .i64 0, .int .i64 0, .bool false, .string ⟨#[]⟩]) 4 40 under24 hi hz0 hz1 hz2 (by rfl) (by decide) (.slice oa pre.length oc) pre.length (pcCells pre) (by rfl) (by exact HOWN.out.alloc (Obj.cells #[Value.int .i64 pi, Value.int .i64 pp, Value.bool pm, Value.string pbd] 36)) ⟨wr.heap.size, 0, none⟩ 1 1 [.int .i64 pi, .int .i64 pp, .bool pm, .string pbd] (by rfl) (by rfl) (by exact cell_pc_new (heap_alloc_new wr _)) (by simp [Value.oneCell']) (by decide) (by have := HPL.out; unfold maxLen; omega) (by have := HPL.out; omega) (by have := HNB2.out; simp; omega) (wr.heap.size + 1) (by simp) ?_; intro g7 cap7 w7 hown hgrow hat hlt7; have hg7 : (wr.alloc (Obj.cells #[Value.int .i64 pi, Value.int .i64 pp, Value.bool pm, Value.string pbd] 36)).grownBy w7 (Value.slice oa pre.length oc).ownBlock := ⟨hgrow.os, hgrow.tape, hgrow.output, hgrow.size, hgrow.block⟩; have hn7 := (HK7.out w7 hg7).trans HNX.out; have HO7 := Lib.hid hown; have HN7 := Lib.hid hn7; have HG7 := Lib.hid hg7; clear hown hgrow hat hlt7 hg7 hn7))
                    all_goals
                      have m1 : w7.cell? ⟨NB, kk, none⟩ = some (.int .i64 (nk : Int)) := by have := next_at HN7.out HKK.out; rw [HNK.out] at this; exact this
                      have m2 : w7.frozen? ⟨NB, kk, none⟩ = false := next_free HN7.out
                      go_wp2_with fail
                      have g8 := grownBy_cell w7 ⟨NB, kk, none⟩ (.int .i64 ((nk + 1 : Nat) : Int))
                      have own8 := HO7.out.kept g8 (.inr fun e => by have h9 : g7 = NB := Option.some.inj e; have := (HO7.out.lt g7 rfl).1; omega)
                      have hb7 : Below w.heap.size w w7 := by
                        have hb := HB7.out
                        exact ⟨HG7.out.os.trans hb.os, HG7.out.tape.trans hb.tape, HG7.out.output.trans hb.output, Nat.le_trans hb.size HG7.out.size, fun k hk => (HG7.out.block k (Nat.lt_of_lt_of_le hk hb.size) (fun e => by have := (HOWN.out.lt _ e.symm).1; omega)).trans (hb.block k hk)⟩
                      have hb8 : Below w.heap.size w (w7.setCell ⟨NB, kk, none⟩ (.int .i64 ((nk + 1 : Nat) : Int))) := ⟨g8.os.trans hb7.os, g8.tape.trans hb7.tape, g8.output.trans hb7.output, Nat.le_trans hb7.size g8.size, fun k hk => (g8.block k (Nat.lt_of_lt_of_le hk hb7.size) (fun e => by have h9 : k = NB := Option.some.inj e; omega)).trans (hb7.block k hk)⟩
                      refine ⟨⟨pre.length + 1, ns.set kk (nk + 1), pre ++ [⟨pi, pp, pm, pbd⟩], by go_num, by simp, ⟨hb8, next_set HN7.out, by rw [pcCells_snoc, List.length_append]; exact own8, by rw [List.length_set]; exact HNL.out⟩, ?_, ?_⟩, ?_⟩
                      · rw [← HSO.out, HSTP.out]; simp
                      · have h1 := congrArg List.length HSTP.out
                        rw [List.length_cons, wv_len _ _ _ rfl, wv_len _ _ _ rfl] at h1
                        have := HSUM.out
                        omega
                      · show fl - (pre.length + 1) < fl - pre.length
                        have := HMORE.out
                        omega
            · have hpe : pre.length = fl := by omega
              have k1 : decide (pre.length < fl) = false := decide_eq_false hmore
              have HF : Hid (pre = all) := Lib.hid (by
                have h1 := HSO.out
                have h2 := HSUM.out
                rw [wv_end (ne_nil_total.2 (by omega)), List.append_nil] at h1
                exact h1)
              clear hmore hpl hpe
              go_wp2_with fail
              go_ret2
              rw [H1.out, H2.out, ← HF.out]
              exact RowPost.own HRV.out.own rfl HRV.out.below

end Go.Proofs.Ytclhnpbjmefpeaa
