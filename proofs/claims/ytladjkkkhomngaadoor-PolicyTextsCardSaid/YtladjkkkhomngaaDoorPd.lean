/- The contract of the reference's Format. -/
import Derived.Test.YtladjkkkhomngaaDoorPc
namespace Go.Proofs.YtladjkkkhomngaaDoor
set_option maxRecDepth 8000
open Go.RowKit Go.Sort Go.BigFrame

set_option maxRecDepth 100000 in
set_option maxHeartbeats 8000000 in
theorem rformat_any (d : SlD) (w : World) (h : TxtEnv w) (hd : d.Ok w) (hl : d.l.length ≤ 1000) :
    Calls Tryd.prog 30 #[.slice d.a d.l.length d.c] w fun e w' => e = .returned (.string (fmtS d.l)) ∧ Below w.heap.size w w' := by
  obtain ⟨ao, l, cap⟩ := d
  simp only at hl ⊢
  have VS := Lib.hid (rvalidSet_any ao cap l w h.sorts hd.row (by omega))
  cases hr : okS l
  · rw [hr] at VS
    have HF : Hid (fmtS l = ⟨#[]⟩) := Lib.hid (by unfold fmtS; rw [if_neg (by rw [hr]; decide)])
    rw [HF.out]
    clear h hd hl hr
    go_enter Tryd.func30, Tryd.ntmps30
    go_wp2_with (go_at_call 14; refine VS.out.mono ?_; rintro e w1 ⟨rfl, hb1⟩; have B1 := Lib.hid hb1; clear hb1)
    go_ret
    exact ⟨rfl, B1.out⟩
  · rw [hr] at VS
    have HO := Lib.hid hr
    have HE := Lib.hid h
    have HRO : Hid (RowAt w ao l) := Lib.hid hd.row
    have HL := Lib.hid hl
    clear h hd hl hr
    go_enter Tryd.func30, Tryd.ntmps30
    go_wp2_with (go_at_call 14; refine VS.out.mono ?_; rintro e w1 ⟨rfl, hb1⟩; have B1 := Lib.hid hb1; clear hb1)
    go_loopw [3, 13] (fun v i wr => ∃ k : Nat, i = .int .i64 k ∧ k ≤ l.length ∧ StI w1 wr l k v) (fun _ i _ => l.length - (intOf i).toNat)
    case atStart => exact ⟨0, rfl, Nat.zero_le _, World.ownsRow_nil _ _ _ _, Below.refl _ _⟩
    case round =>
      obtain ⟨k, rfl, hk, hinv⟩ := hrel
      have HI := Lib.hid hinv
      clear hinv
      by_cases hlt : k < l.length
      · rcases HRO.out.below B1.out with h0 | ⟨b, off, h1, hb, hp⟩
        · subst h0; exact absurd hlt (by simp)
        subst h1
        obtain ⟨c0, c1⟩ := (hp.below HI.out.below hb) k hlt
        have hv := okS_val HO.out l[k] (List.getElem_mem hlt)
        have hki : isK l[k].k = true := by simp only [okP, Bool.and_eq_true] at hv; exact hv.1.1
        obtain ⟨n, hkk⟩ : ∃ n : Nat, l[k].k = n := ⟨l[k].k.toNat, by simp only [isK, Bool.and_eq_true, decide_eq_true_eq] at hki; omega⟩
        obtain ⟨vv, hvv⟩ : ∃ vv, l[k].v = vv := ⟨_, rfl⟩
        rw [hkk] at c0 hv hki
        rw [hvv] at c1 hv
        simp only [isK, Bool.and_eq_true, decide_eq_true_eq] at hki
        have HPE : Hid (l[k] = (⟨n, vv⟩ : PolD)) := Lib.hid (PolD.ext' hkk hvv)
        have hb1 : Below wr.heap.size wr (wr.alloc (polO n vv)) := (Below.refl _ _).alloc (Nat.le_refl _) _
        have HI1 := Lib.hid (HI.out.later hb1)
        have HE1 := Lib.hid fun wx (hx : Below w1.heap.size w1 wx) => (HE.out.below B1.out).below hx
        have WL := Lib.hid fun wx => wordsL_any (n : Int) wx (by simp only [isK, Bool.and_eq_true, decide_eq_true_eq]; omega)
        rw [show wordsL (n : Int) = wordsN n by unfold wordsL; simp] at WL
        obtain ⟨wd, hwd⟩ : ∃ wd, wordP ⟨n, vv⟩ = wd := ⟨_, rfl⟩
        obtain ⟨nm, hnm⟩ : ∃ nm, (wordsN n).getD 0 (⟨#[]⟩ : ByteArray) = nm := ⟨_, rfl⟩
        have hs1 : nm.size ≤ 21 := by rw [← hnm]; exact name_size n (by omega) (by omega) 0 (by omega)
        have hs2 : wd.size ≤ 21 := by rw [← hwd]; exact wordP_size _ _ hv
        obtain ⟨ns, hns⟩ : ∃ ns, nm ++ (⟨#[32]⟩ : ByteArray) = ns := ⟨_, rfl⟩
        obtain ⟨tx, htx⟩ : ∃ tx, ns ++ wd = tx := ⟨_, rfl⟩
        have hs3 : ns.size ≤ 22 := by rw [← hns, ByteArray.size_append]; have : (⟨#[32]⟩ : ByteArray).size = 1 := rfl; omega
        have hc1 : ∀ W : World, (binOp .add 9 (.string nm) (.string ⟨#[32]⟩)).run Tryd.prog W = .ok (.string ns) W := fun W => by rw [binOp_string_add, run_string_add_sum W _ _ (by have : (⟨#[32]⟩ : ByteArray).size = 1 := rfl; omega), hns]
        have hc2 : ∀ W : World, (binOp .add 9 (.string ns) (.string wd)).run Tryd.prog W = .ok (.string tx) W := fun W => by rw [binOp_string_add, run_string_add_sum W _ _ (by omega), htx]
        have hc3 : ∀ W : World, (Op.stringOp .add nm ⟨#[32]⟩).run Tryd.prog W = .ok (.string ns) W := fun W => by rw [run_string_add_sum W _ _ (by have : (⟨#[32]⟩ : ByteArray).size = 1 := rfl; omega), hns]
        have hc4 : ∀ W : World, (Op.stringOp .add ns wd).run Tryd.prog W = .ok (.string tx) W := fun W => by rw [run_string_add_sum W _ _ (by omega), htx]
        have HTX : Hid (tx = textP l[k]) := Lib.hid (by rw [HPE.out, ← htx, ← hns, ← hnm, ← hwd]; rfl)
        have HX : Hid (nm ++ ⟨#[32]⟩ ++ wd = textP l[k]) := Lib.hid (by rw [HPE.out, ← hnm, ← hwd]; rfl)
        have hk1 : (k : Int) < (l.length : Int) := by omega
        have hk2 : (k : Int) + 1 ≤ 9223372036854775807 := by have := HL.out; omega
        have n0 := polO_c0 n vv wr
        have n1 := polO_c1 n vv wr
        have HKL : Hid (k ≤ 1000) := Lib.hid (by have := HL.out; omega)
        obtain ⟨i0, hi, hz0, hz1, hz2⟩ := info_parts Tryd.infoStr
        have hvv0 : 0 ≤ vv ∧ vv ≤ 1000000 := by
          simp only [okP, isK, Bool.and_eq_true, decide_eq_true_eq] at hv
          obtain ⟨⟨_, h3⟩, h4⟩ := hv
          constructor
          · unfold defV at h3; split at h3 <;> omega
          · unfold mostV at h4; split at h4 <;> (try split at h4) <;> (try split at h4) <;> (try split at h4) <;> omega
        have IT := Lib.hid fun wx (hx : Below w1.heap.size w1 wx) => itoa_any vv hvv0.1 hvv0.2 wx (HE1.out wx hx)
        obtain ⟨lw, hlw⟩ : ∃ lw, wordsN n = lw := ⟨_, rfl⟩
        by_cases hk10 : n = 10 ∨ n = 12
        · have hwl : lw.length = 1 ∧ lw[0]? = some nm := by
            rw [← hlw, ← hnm]
            rcases hk10 with rfl | rfl <;> exact ⟨rfl, rfl⟩
          have hit : (⟨(Lib.itoa vv).toArray⟩ : ByteArray) = wd := by rw [← hwd]; unfold wordP; rw [if_pos (by unfold defV; rw [if_pos (by simp only; omega)])]
          rw [hit] at IT
          rw [hlw, hwl.1] at WL
          have HW0 := Lib.hid hwl.2
          clear hkk hvv hp hb1 hwd hnm hv hki hs1 hs2 hs3 hns htx hlw hwl hit hvv0 hk10
          go_wp2_with (first | (go_at_call 44; refine (WL.out _).mono ?_; rintro e w2 ⟨bw, rfl, hbw, hst, hb2⟩; have q0 := (hb2.cell (p := ⟨wr.heap.size, 0, none⟩) (by simp)).trans (polO_c0 n vv wr); have q1 := (hb2.cell (p := ⟨wr.heap.size, 1, none⟩) (by simp)).trans (polO_c1 n vv wr); have HST := Lib.hid hst; have HI2 := Lib.hid (HI1.out.later hb2); clear hb2 hst hbw) | (go_at_call 61; refine (IT.out _ HI2.out.below).mono ?_; rintro e w3 ⟨rfl, hb3⟩; have s0 := (HST.out.below hb3).2 0 _ HW0.out; have HI3 := Lib.hid (HI2.out.later hb3); clear hb3) | (at_builtin; refine wpList_append_own_at _ rfl _ _ 63 rfl w1.heap.size 9 i0 (.string ⟨#[]⟩) 1 16 under63 hi hz0 hz1 hz2 rfl (by decide) _ _ _ rfl (HI3.out.own.alloc _) ⟨w3.heap.size, 0, none⟩ 1 1 [.string tx] rfl rfl (cell_str_new (heap_alloc_new _ _)) (by simp [Value.oneCell']) (by have := HKL.out; unfold maxLen; omega) (by have := HKL.out; omega) (by have := HI3.out.below.size; simp; omega) ?_; intro v' w4 hown' hgrow _ _; have HI4 := Lib.hid (StI.grown (HI3.out.later ((Below.refl _ _).alloc (Nat.le_refl _) _)) hgrow hown' hlt HTX.out); clear hown' hgrow))
          exact ⟨⟨k + 1, by go_num, hlt, HI4.out⟩, by simp [intOf]; omega⟩
        · obtain ⟨m, rfl⟩ : ∃ m : Nat, vv = m := ⟨vv.toNat, by omega⟩
          have hwl : lw[0]? = some nm ∧ lw[m]? = some wd ∧ (1 : Int) < (lw.length : Int) ∧ (m : Int) < (lw.length : Int) := by
            have hmw : ((wN (n : Int) : Nat) : Int) = mostV n + 1 := wN_most (by omega) (by omega)
            have hln : (wordsN n).length = wN (n : Int) := by
              have hh : n = 1 ∨ n = 2 ∨ n = 3 ∨ n = 4 ∨ n = 5 ∨ n = 6 ∨ n = 7 ∨ n = 8 ∨ n = 9 ∨ n = 11 ∨ n = 13 := by omega
              rcases hh with rfl | rfl | rfl | rfl | rfl | rfl | rfl | rfl | rfl | rfl | rfl <;> rfl
            simp only [okP, Bool.and_eq_true, decide_eq_true_eq] at hv
            have hd1 : defV (n : Int) = 1 := by unfold defV; rw [if_neg (by omega)]
            have h3 : 1 ≤ (m : Int) := by have := hv.1.2; rw [hd1] at this; exact this
            have h4 := hv.2
            have hml : m < (wordsN n).length := by omega
            have h0l : 0 < (wordsN n).length := by omega
            refine ⟨?_, ?_, by rw [← hlw]; omega, by rw [← hlw]; omega⟩
            · rw [← hlw, ← hnm, List.getD_eq_getElem?_getD, List.getElem?_eq_getElem h0l]; rfl
            · rw [← hlw, ← hwd]
              unfold wordP wordsL
              rw [if_neg (by simp only; rw [hd1]; decide)]
              simp only [Int.toNat_natCast]
              rw [List.getD_eq_getElem?_getD, List.getElem?_eq_getElem hml]; rfl
          obtain ⟨iv, hiv⟩ : ∃ iv, (⟨(Lib.itoa (m : Int)).toArray⟩ : ByteArray) = iv := ⟨_, rfl⟩
          rw [hiv] at IT
          rw [hlw] at WL
          obtain ⟨LN, hLN⟩ : ∃ LN, lw.length = LN := ⟨_, rfl⟩
          rw [hLN] at WL hwl
          have HW0 := Lib.hid hwl.1
          have HW1 := Lib.hid hwl.2.1
          have d1 : decide ((1 : Int) < (LN : Int)) = true := by simpa using hwl.2.2.1
          have d2 : (m : Int) < (LN : Int) := hwl.2.2.2
          have d3 : (0 : Int) ≤ (m : Int) := by omega
          have d4 : (0 : Int) < (LN : Int) := by omega
          clear hkk hvv hp hb1 hwd hnm hv hki hs1 hs2 hs3 hns htx hlw hwl hiv hvv0 hk10 hLN
          go_wp2_with (first | (go_at_call 44; refine (WL.out _).mono ?_; rintro e w2 ⟨bw, rfl, hbw, hst, hb2⟩; have q0 := (hb2.cell (p := ⟨wr.heap.size, 0, none⟩) (by simp)).trans (polO_c0 n m wr); have q1 := (hb2.cell (p := ⟨wr.heap.size, 1, none⟩) (by simp)).trans (polO_c1 n m wr); have HST := Lib.hid hst; have HLT2 : Hid (wr.heap.size < w2.heap.size) := Lib.hid (Nat.lt_of_lt_of_le (by simp) hb2.size); have HI2 := Lib.hid (HI1.out.later hb2); clear hb2 hst hbw) | (go_at_call 61; refine (IT.out _ HI2.out.below).mono ?_; rintro e w3 ⟨rfl, hb3⟩; have s0 := (HST.out.below hb3).2 0 _ HW0.out; have s1 := (HST.out.below hb3).2 m _ HW1.out; have r0 := (hb3.cell (p := ⟨wr.heap.size, 0, none⟩) HLT2.out).trans q0; have r1 := (hb3.cell (p := ⟨wr.heap.size, 1, none⟩) HLT2.out).trans q1; have HI3 := Lib.hid (HI2.out.later hb3); clear hb3) | (at_builtin; refine wpList_append_own_at _ rfl _ _ 63 rfl w1.heap.size 9 i0 (.string ⟨#[]⟩) 1 16 under63 hi hz0 hz1 hz2 rfl (by decide) _ _ _ rfl (HI3.out.own.alloc _) ⟨w3.heap.size, 0, none⟩ 1 1 [.string tx] rfl rfl (cell_str_new (heap_alloc_new _ _)) (by simp [Value.oneCell']) (by have := HKL.out; unfold maxLen; omega) (by have := HKL.out; omega) (by have := HI3.out.below.size; simp; omega) ?_; intro v' w4 hown' hgrow _ _; have HI4 := Lib.hid (StI.grown (HI3.out.later ((Below.refl _ _).alloc (Nat.le_refl _) _)) hgrow hown' hlt HTX.out); clear hown' hgrow))
          exact ⟨⟨k + 1, by go_num, hlt, HI4.out⟩, by simp [intOf]; omega⟩
      · obtain rfl : k = l.length := by omega
        rcases HI.out.own.2 with ⟨h1, h2⟩ | ⟨g, cap2, cur, h1, hb, hg, hc, hcm, hcs, hct⟩
        · subst h1
          have hl0 : l = [] := List.eq_nil_of_length_eq_zero h2
          have HF : Hid (fmtS l = ⟨#[]⟩) := Lib.hid (by unfold fmtS; rw [if_pos HO.out, hl0]; rfl)
          clear h2 hl0
          go_wp2_with (go_at_call 55; refine (Tryd.strings_Join_none none 0 _ _).mono ?_; rintro e w4 ⟨rfl, rfl⟩)
          go_ret
          exact ⟨by rw [HF.out]; rfl, B1.out.trans (HI.out.below.mono B1.out.size)⟩
        · subst h1
          have hlt2 : g < wr.heap.size := (Array.getElem?_eq_some_iff.1 hg).1
          have JO := Lib.hid (Tryd.strings_Join g 0 cap2 (l.map textP) ⟨#[44, 32]⟩ wr (fun j x hx => by
            rw [Nat.zero_add, cells_at hg j]
            rw [List.getElem?_map] at hx
            obtain ⟨p, hp, rfl⟩ := Option.map_eq_some_iff.1 hx
            have hjl : j < l.length := (List.getElem?_eq_some_iff.1 hp).1
            have e1 : (txtCells l l.length)[j]? = some (.string (textP p)) := by
              unfold txtCells
              rw [List.take_length, List.getElem?_map, hp]
              rfl
            rw [← hct, List.getElem?_take, if_pos (by omega), Array.getElem?_toList] at e1
            exact e1) hlt2 (by rw [List.length_map]; have := HL.out; omega) (by rw [List.length_map]; exact hc) (by
            have h1 := join_len ((l.map textP).map (·.data.toList)) (fun x hx => by
              obtain ⟨y, hy, rfl⟩ := List.mem_map.1 hx
              obtain ⟨p, hp, rfl⟩ := List.mem_map.1 hy
              have h2 : (textP p).data.size ≤ 50 := textP_size p (okS_val HO.out p hp)
              rw [Array.length_toList]
              exact h2)
            rw [List.length_map, List.length_map] at h1
            have := HL.out
            have h3 : (Lib.join ((l.map textP).map (·.data.toList)) [44, 32]).length ≤ 140737488355328 := by omega
            exact h3))
          rw [List.length_map] at JO
          have HF : Hid ((⟨(Lib.join ((l.map textP).map (·.data.toList)) (⟨#[44, 32]⟩ : ByteArray).data.toList).toArray⟩ : ByteArray) = fmtS l) := Lib.hid (by unfold fmtS; rw [if_pos HO.out, List.map_map]; rfl)
          rw [HF.out] at JO
          clear hb hg hc hcm hcs hct hlt2
          go_wp2_with (go_at_call 55; refine JO.out.mono ?_; rintro e w4 ⟨rfl, hb4⟩; have B4 := Lib.hid ((B1.out.trans (HI.out.below.mono B1.out.size)).trans (hb4.mono (Nat.le_trans B1.out.size HI.out.below.size))); clear hb4)
          go_ret
          exact ⟨rfl, B4.out⟩

end Go.Proofs.YtladjkkkhomngaaDoor
