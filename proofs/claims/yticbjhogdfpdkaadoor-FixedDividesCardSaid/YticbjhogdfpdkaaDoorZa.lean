/- parse. -/
import Derived.Test.YticbjhogdfpdkaaDoorZ
namespace Go.Proofs.YticbjhogdfpdkaaDoor
set_option maxRecDepth 8000
open Go.RowKit Go.Shelf

/-- What parse gives: the cells of a number, and whether it is one. -/
def parseN (t : ByteArray) : Nat := if okT t.data.toList = true then valL (pU t.data.toList) else 0
def parseS (t : ByteArray) : Nat := if okT t.data.toList = true then sclT t.data.toList else 0
def parseB (t : ByteArray) : Bool := okT t.data.toList && pS t.data.toList

/-- The result's variable, the number's. -/
structure PaI (w : World) (n : Nat) (s : Int) (b : Bool) (W : World) : Prop where
  r : NumAt W w.heap.size 0 0 false
  a : NumAt W (w.heap.size + 1) n s b
  bl : Below w.heap.size w W
theorem PaI.start (w : World) (b : Bool) : PaI w 0 0 b ((w.alloc (.cells (nC 0 0 false) 45)).alloc (.cells (nC 0 0 b) 45)) :=
  ⟨old_block _ _ _ _ (at_block _ _ _ rfl), at_block _ _ _ (by simp), ((Below.refl _ _).alloc (Nat.le_refl _) _).alloc (by simp) _⟩
theorem PaI.later {w : World} {n : Nat} {s : Int} {b : Bool} {W W' : World} (h : PaI w n s b W) (hb : Below W.heap.size W W') : PaI w n s b W' :=
  ⟨h.r.below hb, h.a.below hb, h.bl.trans (hb.mono h.bl.size)⟩
theorem PaI.env {w : World} {n : Nat} {s : Int} {b : Bool} {W : World} (h : PaI w n s b W) (he : Env w) : Env W := he.below h.bl
theorem PaI.seta {w : World} {n n' : Nat} {s : Int} {b : Bool} {W : World} (h : PaI w n s b W) : PaI w n' s b (W.setCells (w.heap.size + 1) 0 (dL n')) :=
  ⟨(heap_setCells_other _ _ _ _ _ (by omega)).trans h.r, h.a.setDig, below_setCells _ _ _ h.bl (by omega)⟩
theorem PaI.sets {w : World} {n : Nat} {s s' : Int} {b : Bool} {W : World} (h : PaI w n s b W) : PaI w n s' b (W.setCell ⟨w.heap.size + 1, 128, none⟩ (.int .i64 s')) :=
  ⟨h.r.other _ _ (by simp only; omega), h.a.setScale, ⟨h.bl.os, h.bl.tape, h.bl.output, by simpa [World.setCell] using h.bl.size, fun j hj => (heap_setCell_other _ _ _ _ (by simp only; omega)).trans (h.bl.block j hj)⟩⟩
theorem ret_numb {fn : Func} {p q : Tmp} {W : World} {R a : Nat} {s : Int} {x y : Bool} {tmps : Array Value} (h : fn.results = #[.cell p 45, .tmp q]) (hp : tmps.getD p undef = .pointer (some ⟨R, 0, none⟩)) (hq : tmps.getD q undef = .bool y) (ha : NumAt W R a s x) :
    (results fn tmps).run Tryd.prog W = .ok (.tuple #[.agg (nC a s x), .bool y]) W := by
  have hp' : tmps[p]?.getD undef = .pointer (some ⟨R, 0, none⟩) := by simpa using hp
  have hq' : tmps[q]?.getD undef = .bool y := by simpa using hq
  simp [results, h, hp', hq', asAddr, load_num ha, Result.andThen]

set_option maxRecDepth 100000 in
set_option maxHeartbeats 16000000 in
theorem parse_any (t : ByteArray) (w : World) (h : Env w) (hs : t.size ≤ 1000) :
    Calls Tryd.prog 38 #[.string t] w fun e w' => e = .returned (.tuple #[.agg (nC (parseN t) (parseS t) (parseB t)), .bool (okT t.data.toList)]) ∧ Below w.heap.size w w' := by
  obtain ⟨l, hl⟩ : ∃ l, t.data.toList = l := ⟨_, rfl⟩
  have hsz : l.length ≤ 1000 := by rw [← hl, ← Lib.size_eq]; exact hs
  have CP := Lib.hid fun wx => Tryd.strings_CutPrefix t ⟨#[45]⟩ wx
  have RN : parseN t = if okT l = true then valL (pU l) else 0 := by unfold parseN; rw [hl]
  have RS : parseS t = if okT l = true then (pB l).length else 0 := by unfold parseS sclT; rw [hl]
  have RB : parseB t = (okT l && pS l) := by unfold parseB; rw [hl]
  have RO : okT l = (okW (pW l) && okB (pB l) (pP l) && okU (pU l) (pS l)) := rfl
  rw [hl] at CP ⊢
  obtain ⟨N, hN⟩ : ∃ N, parseN t = N := ⟨_, rfl⟩
  obtain ⟨C, hC⟩ : ∃ N, parseS t = N := ⟨_, rfl⟩
  obtain ⟨G, hG⟩ : ∃ N, parseB t = N := ⟨_, rfl⟩
  obtain ⟨O, hO⟩ : ∃ N, okT l = N := ⟨_, rfl⟩
  rw [hN, hO] at RN
  rw [hC, hO] at RS
  rw [hG, hO] at RB
  rw [hO] at RO
  rw [hN, hC, hG, hO]
  clear hN hC hG hO hl hs
  have hI : (pI l).length ≤ 1000 := by
    unfold pI Lib.trimPrefix
    split
    · rw [List.length_drop]; omega
    · exact hsz
  have hWB : (pW l).length + (pB l).length ≤ 1000 := by
    unfold pW pB Lib.cut
    split
    · rename_i hq
      have hq2 := Lib.index_le (pI l) [46]
      simp only [List.length_take, List.length_drop, List.length_cons, List.length_nil]
      omega
    · simp only [List.length_nil]; omega
  have CU := Lib.hid fun wx (he : Env wx) => cut_any ⟨(pI l).toArray⟩ wx he (by rw [size_of]; omega)
  have A1 := Lib.hid fun wx => all_any ⟨(pW l).toArray⟩ wx (by rw [size_of]; omega)
  have A2 := Lib.hid fun wx => all_any ⟨(pB l).toArray⟩ wx (by rw [size_of]; omega)
  have TL := Lib.hid fun wx => Tryd.strings_TrimLeft_one (⟨(pW l ++ pB l).toArray⟩ : ByteArray) 48 (by decide) wx
  have OT := Lib.hid fun wx (hd : allD (pU l) = true) (hk : (pU l).length ≤ 31) => ofText_any (valL (pU l)) (pU l).length wx (valL_lt _ hd) (by omega)
  have HU := Lib.hid (show allD (pW l) = true → allD (pB l) = true → allD (pU l) = true from fun h1 h2 => allD_drop _ (by rw [allD_app, h1, h2]; rfl))
  have HT := Lib.hid fun hd : allD (pU l) = true => show txD (valL (pU l)) (pU l).length = ⟨(pU l).toArray⟩ by unfold txD; rw [decT_val _ hd]
  have eU : Lib.trimLeftB (pW l ++ pB l) 48 = pU l := rfl
  simp only [eU] at CP CU A1 A2 TL
  have eS : Lib.hasPrefix l [45] = pS l := rfl
  have eI : Lib.trimPrefix l [45] = pI l := rfl
  have eW : (Lib.cut (pI l) [46]).1 = pW l := rfl
  have eB : (Lib.cut (pI l) [46]).2.1 = pB l := rfl
  have eP : (Lib.cut (pI l) [46]).2.2 = pP l := rfl
  rw [eI, eS] at CP
  rw [eW, eB, eP] at CU
  have hap : (⟨(pW l).toArray⟩ : ByteArray) ++ ⟨(pB l).toArray⟩ = ⟨(pW l ++ pB l).toArray⟩ := by
    apply ByteArray.ext
    simp [ByteArray.data_append]
  rw [← hap] at TL
  clear eU eS eI eW eB eP hI hsz hap
  generalize (⟨(pI l).toArray⟩ : ByteArray) = s1 at CP CU
  generalize pS l = S at CP RB RO
  generalize pP l = P at CU RO
  generalize valL (pU l) = V at RN OT HT
  generalize pU l = ul at RO OT HU HT TL
  generalize pW l = wl at RO CU A1 TL HU hWB
  generalize pB l = bl at RO RS CU A2 TL HU hWB
  obtain ⟨wh, hwh⟩ : ∃ b : ByteArray, (⟨wl.toArray⟩ : ByteArray) = b := ⟨_, rfl⟩
  obtain ⟨bh, hbh⟩ : ∃ b : ByteArray, (⟨bl.toArray⟩ : ByteArray) = b := ⟨_, rfl⟩
  obtain ⟨uh, huh⟩ : ∃ b : ByteArray, (⟨ul.toArray⟩ : ByteArray) = b := ⟨_, rfl⟩
  have fw1 : wh.toList = wl := by rw [← hwh, Lib.toList_data]
  have fb1 : bh.toList = bl := by rw [← hbh, Lib.toList_data]
  have fu1 : uh.toList = ul := by rw [← huh, Lib.toList_data]
  have fw2 : wh.size = wl.length := by rw [← hwh, size_of]
  have fb2 : bh.size = bl.length := by rw [← hbh, size_of]
  have fu2 : uh.size = ul.length := by rw [← huh, size_of]
  have fw3 : ∀ c r, wl = c :: r → ∀ h : 0 < wh.size, wh[0] = c := fun c r e h => by subst e; subst hwh; rfl
  rw [hwh] at CU A1 TL
  rw [hbh] at CU A2 TL
  rw [huh] at TL HT
  have HS := Lib.hid (PaI.start w S)
  have HE := Lib.hid h
  clear hwh hbh huh h
  have hcat : ¬ 9223372036854775807 < wh.size + bh.size := by omega
  rw [← fb2] at RS
  have HFB := Lib.hid fb2
  have HFU := Lib.hid fu2
  clear fb2 fu2 hWB
  go_enter Tryd.func38, Tryd.ntmps38
  go_wp2_with (first | (go_at_call 77; refine (CP.out _).mono ?_; rintro e wx ⟨rfl, rfl⟩))
  rw [zero45, nC_sign]
  go_wp2_with (go_at_call 78; refine (CU.out _ (HS.out.env HE.out)).mono ?_; rintro e w3 ⟨rfl, hb3⟩; have H3 := Lib.hid (HS.out.later hb3); clear hb3)
  by_cases hA : allD wl = true
  · rw [hA] at A1
    have HA := Lib.hid hA
    cases hl : wl with
    | nil =>
      subst hl
      have hOf : O = false := by rw [RO]; simp [okW]
      clear RO
      subst hOf
      rw [if_neg (by decide)] at RN RS
      rw [Bool.false_and] at RB
      subst RN RS RB
      go_wp2_with (first | (go_at_call 79; refine (A1.out _).mono ?_; rintro e w4 ⟨rfl, hb4⟩; have H4 := Lib.hid (H3.out.later hb4); clear hb4) | (rw [zero45]; refine wpList_storeV rfl 45 _ _ rfl ⟨w.heap.size, 0, none⟩ rfl (.agg (nC 0 0 false)) rfl _ (store_num H4.out.r) ?_))
      exact bodyPost_ret (ret_numb rfl rfl rfl H4.out.r.put) rfl ⟨rfl, below_row H4.out.bl (by omega)⟩
    | cons c r =>
      subst hl
      have hz : 0 < wh.size := by rw [fw2]; simp
      have hx : wh[0] = c := fw3 c r rfl hz
      have hz2 : (0 : Int) < (wh.size : Int) := by omega
      clear fw2 fw3
      by_cases hc : c = 48
      · subst hc
        cases r with
        | nil =>
          have hWk : okW [48] = true := by
            simp_all [okW]
          by_cases hA2 : allD bl = true
          · rw [hA2] at A2
            have HA2 := Lib.hid hA2
            cases P with
            | false =>
              by_cases hB31 : bh.size ≤ 31
              · clear hA
                have hBk : okB bl false = true := by unfold okB; rw [hA2, ← HFB.out, decide_eq_true hB31]; rfl
                have hB31i : ¬ (31 : Int) < (bh.size : Int) := by omega
                by_cases hu : uh.size ≤ 31
                · have hu2 : ¬ (31 : Int) < (uh.size : Int) := by omega
                  have HU31 := Lib.hid (show ul.length ≤ 31 from HFU.out ▸ hu)
                  cases S with
                  | false =>
                    have hUk : okU ul false = true := by unfold okU; rw [decide_eq_true HU31.out]; rfl
                    have hOt : O = true := by rw [RO, hWk, hBk, hUk]; rfl
                    clear RO
                    subst hOt
                    rw [if_pos rfl] at RN RS
                    rw [Bool.true_and] at RB
                    subst RN RS RB
                    have OT := Lib.hid fun wx => OT.out wx (HU.out HA.out HA2.out) HU31.out
                    rw [HT.out (HU.out HA.out HA2.out)] at OT
                    clear HU
                    go_wp2_with (first | refine wpList_storeV rfl 45 _ _ rfl ⟨w.heap.size, 0, none⟩ rfl (.agg (nC N bh.size false)) rfl _ (store_num H8.out.sets.r) ?_ | refine wpList_loadV rfl 45 _ rfl ⟨w.heap.size + 1, 0, none⟩ rfl _ (load_num H8.out.sets.a) ?_ | (refine wpList_storeV rfl 43 _ _ rfl ⟨w.heap.size + 1, 0, none⟩ rfl (.agg (dC N)) rfl _ (store_numdig H7.out.a) ?_; have H8 := Lib.hid (H7.out.seta (n' := N)); generalize w7.setCells (w.heap.size + 1) 0 (dL N) = W8 at H8 ⊢; have f8 := frozen_at H8.out.a 128; have c8 := H8.out.a.scale) | (go_at_call 74; refine (OT.out _).mono ?_; rintro e w7 ⟨rfl, hb7⟩; have H7 := Lib.hid (H5.out.later hb7); clear hb7) | (go_at_call 80; refine (TL.out _).mono ?_; rintro e wx ⟨rfl, rfl⟩) | (go_at_call 79; refine (A2.out _).mono ?_; rintro e w5 ⟨rfl, hb5⟩; have H5 := Lib.hid (H4.out.later hb5); have c5 := H5.out.a.sign; clear hb5) | (go_at_call 79; refine (A1.out _).mono ?_; rintro e w4 ⟨rfl, hb4⟩; have H4 := Lib.hid (H3.out.later hb4); clear hb4))
                    exact bodyPost_ret (ret_numb rfl rfl rfl H8.out.sets.r.put) rfl ⟨rfl, below_row H8.out.sets.bl (by omega)⟩
                  | true =>
                    cases hq : ul with
                    | nil =>
                      subst hq
                      have hOf : O = false := by rw [RO]; simp [okU]
                      clear RO
                      subst hOf
                      rw [if_neg (by decide)] at RN RS
                      rw [Bool.false_and] at RB
                      subst RN RS RB
                      go_wp2_with (first | (go_at_call 80; refine (TL.out _).mono ?_; rintro e wx ⟨rfl, rfl⟩) | (go_at_call 79; refine (A2.out _).mono ?_; rintro e w5 ⟨rfl, hb5⟩; have H5 := Lib.hid (H4.out.later hb5); have c5 := H5.out.a.sign; clear hb5) | (go_at_call 79; refine (A1.out _).mono ?_; rintro e w4 ⟨rfl, hb4⟩; have H4 := Lib.hid (H3.out.later hb4); clear hb4) | (rw [zero45]; refine wpList_storeV rfl 45 _ _ rfl ⟨w.heap.size, 0, none⟩ rfl (.agg (nC 0 0 false)) rfl _ (store_num H5.out.r) ?_))
                      exact bodyPost_ret (ret_numb rfl rfl rfl H5.out.r.put) rfl ⟨rfl, below_row H5.out.bl (by omega)⟩
                    | cons y9 r9 =>
                      subst hq
                      have hUk : okU (y9 :: r9) true = true := by unfold okU; rw [decide_eq_true HU31.out]; rfl
                      have hOt : O = true := by rw [RO, hWk, hBk, hUk]; rfl
                      clear RO
                      subst hOt
                      rw [if_pos rfl] at RN RS
                      rw [Bool.true_and] at RB
                      subst RN RS RB
                      have OT := Lib.hid fun wx => OT.out wx (HU.out HA.out HA2.out) HU31.out
                      rw [HT.out (HU.out HA.out HA2.out)] at OT
                      clear HU
                      go_wp2_with (first | refine wpList_storeV rfl 45 _ _ rfl ⟨w.heap.size, 0, none⟩ rfl (.agg (nC N bh.size true)) rfl _ (store_num H8.out.sets.r) ?_ | refine wpList_loadV rfl 45 _ rfl ⟨w.heap.size + 1, 0, none⟩ rfl _ (load_num H8.out.sets.a) ?_ | (refine wpList_storeV rfl 43 _ _ rfl ⟨w.heap.size + 1, 0, none⟩ rfl (.agg (dC N)) rfl _ (store_numdig H7.out.a) ?_; have H8 := Lib.hid (H7.out.seta (n' := N)); generalize w7.setCells (w.heap.size + 1) 0 (dL N) = W8 at H8 ⊢; have f8 := frozen_at H8.out.a 128; have c8 := H8.out.a.scale) | (go_at_call 74; refine (OT.out _).mono ?_; rintro e w7 ⟨rfl, hb7⟩; have H7 := Lib.hid (H5.out.later hb7); clear hb7) | (go_at_call 80; refine (TL.out _).mono ?_; rintro e wx ⟨rfl, rfl⟩) | (go_at_call 79; refine (A2.out _).mono ?_; rintro e w5 ⟨rfl, hb5⟩; have H5 := Lib.hid (H4.out.later hb5); have c5 := H5.out.a.sign; clear hb5) | (go_at_call 79; refine (A1.out _).mono ?_; rintro e w4 ⟨rfl, hb4⟩; have H4 := Lib.hid (H3.out.later hb4); clear hb4))
                      exact bodyPost_ret (ret_numb rfl rfl rfl H8.out.sets.r.put) rfl ⟨rfl, below_row H8.out.sets.bl (by omega)⟩
                · have hu2 : (31 : Int) < (uh.size : Int) := by omega
                  have hOf : O = false := by rw [RO]; simp [okU, ← HFU.out, hu]
                  clear RO
                  subst hOf
                  rw [if_neg (by decide)] at RN RS
                  rw [Bool.false_and] at RB
                  subst RN RS RB
                  go_wp2_with (first | (go_at_call 80; refine (TL.out _).mono ?_; rintro e wx ⟨rfl, rfl⟩) | (go_at_call 79; refine (A2.out _).mono ?_; rintro e w5 ⟨rfl, hb5⟩; have H5 := Lib.hid (H4.out.later hb5); have c5 := H5.out.a.sign; clear hb5) | (go_at_call 79; refine (A1.out _).mono ?_; rintro e w4 ⟨rfl, hb4⟩; have H4 := Lib.hid (H3.out.later hb4); clear hb4) | (rw [zero45]; refine wpList_storeV rfl 45 _ _ rfl ⟨w.heap.size, 0, none⟩ rfl (.agg (nC 0 0 false)) rfl _ (store_num H5.out.r) ?_))
                  exact bodyPost_ret (ret_numb rfl rfl rfl H5.out.r.put) rfl ⟨rfl, below_row H5.out.bl (by omega)⟩
              · have hOf : O = false := by rw [RO]; simp [okB, ← HFB.out, hB31]
                have hB31i : (31 : Int) < (bh.size : Int) := by omega
                clear RO
                subst hOf
                rw [if_neg (by decide)] at RN RS
                rw [Bool.false_and] at RB
                subst RN RS RB
                go_wp2_with (first | (go_at_call 79; refine (A2.out _).mono ?_; rintro e w5 ⟨rfl, hb5⟩; have H5 := Lib.hid (H4.out.later hb5); have c5 := H5.out.a.sign; clear hb5) | (go_at_call 79; refine (A1.out _).mono ?_; rintro e w4 ⟨rfl, hb4⟩; have H4 := Lib.hid (H3.out.later hb4); clear hb4) | (rw [zero45]; refine wpList_storeV rfl 45 _ _ rfl ⟨w.heap.size, 0, none⟩ rfl (.agg (nC 0 0 false)) rfl _ (store_num H5.out.r) ?_))
                exact bodyPost_ret (ret_numb rfl rfl rfl H5.out.r.put) rfl ⟨rfl, below_row H5.out.bl (by omega)⟩
            | true =>
              cases hbl : bl with
              | nil =>
                subst hbl
                have hOf : O = false := by rw [RO]; simp [okB]
                clear RO
                subst hOf
                rw [if_neg (by decide)] at RN RS
                rw [Bool.false_and] at RB
                subst RN RS RB
                go_wp2_with (first | (go_at_call 79; refine (A2.out _).mono ?_; rintro e w5 ⟨rfl, hb5⟩; have H5 := Lib.hid (H4.out.later hb5); have c5 := H5.out.a.sign; clear hb5) | (go_at_call 79; refine (A1.out _).mono ?_; rintro e w4 ⟨rfl, hb4⟩; have H4 := Lib.hid (H3.out.later hb4); clear hb4) | (rw [zero45]; refine wpList_storeV rfl 45 _ _ rfl ⟨w.heap.size, 0, none⟩ rfl (.agg (nC 0 0 false)) rfl _ (store_num H5.out.r) ?_))
                exact bodyPost_ret (ret_numb rfl rfl rfl H5.out.r.put) rfl ⟨rfl, below_row H5.out.bl (by omega)⟩
              | cons y r8 =>
                subst hbl
                by_cases hB31 : bh.size ≤ 31
                · clear hA
                  have hBk : okB (y :: r8) true = true := by unfold okB; rw [hA2, ← HFB.out, decide_eq_true hB31]; rfl
                  have hB31i : ¬ (31 : Int) < (bh.size : Int) := by omega
                  by_cases hu : uh.size ≤ 31
                  · have hu2 : ¬ (31 : Int) < (uh.size : Int) := by omega
                    have HU31 := Lib.hid (show ul.length ≤ 31 from HFU.out ▸ hu)
                    cases S with
                    | false =>
                      have hUk : okU ul false = true := by unfold okU; rw [decide_eq_true HU31.out]; rfl
                      have hOt : O = true := by rw [RO, hWk, hBk, hUk]; rfl
                      clear RO
                      subst hOt
                      rw [if_pos rfl] at RN RS
                      rw [Bool.true_and] at RB
                      subst RN RS RB
                      have OT := Lib.hid fun wx => OT.out wx (HU.out HA.out HA2.out) HU31.out
                      rw [HT.out (HU.out HA.out HA2.out)] at OT
                      clear HU
                      go_wp2_with (first | refine wpList_storeV rfl 45 _ _ rfl ⟨w.heap.size, 0, none⟩ rfl (.agg (nC N bh.size false)) rfl _ (store_num H8.out.sets.r) ?_ | refine wpList_loadV rfl 45 _ rfl ⟨w.heap.size + 1, 0, none⟩ rfl _ (load_num H8.out.sets.a) ?_ | (refine wpList_storeV rfl 43 _ _ rfl ⟨w.heap.size + 1, 0, none⟩ rfl (.agg (dC N)) rfl _ (store_numdig H7.out.a) ?_; have H8 := Lib.hid (H7.out.seta (n' := N)); generalize w7.setCells (w.heap.size + 1) 0 (dL N) = W8 at H8 ⊢; have f8 := frozen_at H8.out.a 128; have c8 := H8.out.a.scale) | (go_at_call 74; refine (OT.out _).mono ?_; rintro e w7 ⟨rfl, hb7⟩; have H7 := Lib.hid (H5.out.later hb7); clear hb7) | (go_at_call 80; refine (TL.out _).mono ?_; rintro e wx ⟨rfl, rfl⟩) | (go_at_call 79; refine (A2.out _).mono ?_; rintro e w5 ⟨rfl, hb5⟩; have H5 := Lib.hid (H4.out.later hb5); have c5 := H5.out.a.sign; clear hb5) | (go_at_call 79; refine (A1.out _).mono ?_; rintro e w4 ⟨rfl, hb4⟩; have H4 := Lib.hid (H3.out.later hb4); clear hb4))
                      exact bodyPost_ret (ret_numb rfl rfl rfl H8.out.sets.r.put) rfl ⟨rfl, below_row H8.out.sets.bl (by omega)⟩
                    | true =>
                      cases hq : ul with
                      | nil =>
                        subst hq
                        have hOf : O = false := by rw [RO]; simp [okU]
                        clear RO
                        subst hOf
                        rw [if_neg (by decide)] at RN RS
                        rw [Bool.false_and] at RB
                        subst RN RS RB
                        go_wp2_with (first | (go_at_call 80; refine (TL.out _).mono ?_; rintro e wx ⟨rfl, rfl⟩) | (go_at_call 79; refine (A2.out _).mono ?_; rintro e w5 ⟨rfl, hb5⟩; have H5 := Lib.hid (H4.out.later hb5); have c5 := H5.out.a.sign; clear hb5) | (go_at_call 79; refine (A1.out _).mono ?_; rintro e w4 ⟨rfl, hb4⟩; have H4 := Lib.hid (H3.out.later hb4); clear hb4) | (rw [zero45]; refine wpList_storeV rfl 45 _ _ rfl ⟨w.heap.size, 0, none⟩ rfl (.agg (nC 0 0 false)) rfl _ (store_num H5.out.r) ?_))
                        exact bodyPost_ret (ret_numb rfl rfl rfl H5.out.r.put) rfl ⟨rfl, below_row H5.out.bl (by omega)⟩
                      | cons y9 r9 =>
                        subst hq
                        have hUk : okU (y9 :: r9) true = true := by unfold okU; rw [decide_eq_true HU31.out]; rfl
                        have hOt : O = true := by rw [RO, hWk, hBk, hUk]; rfl
                        clear RO
                        subst hOt
                        rw [if_pos rfl] at RN RS
                        rw [Bool.true_and] at RB
                        subst RN RS RB
                        have OT := Lib.hid fun wx => OT.out wx (HU.out HA.out HA2.out) HU31.out
                        rw [HT.out (HU.out HA.out HA2.out)] at OT
                        clear HU
                        go_wp2_with (first | refine wpList_storeV rfl 45 _ _ rfl ⟨w.heap.size, 0, none⟩ rfl (.agg (nC N bh.size true)) rfl _ (store_num H8.out.sets.r) ?_ | refine wpList_loadV rfl 45 _ rfl ⟨w.heap.size + 1, 0, none⟩ rfl _ (load_num H8.out.sets.a) ?_ | (refine wpList_storeV rfl 43 _ _ rfl ⟨w.heap.size + 1, 0, none⟩ rfl (.agg (dC N)) rfl _ (store_numdig H7.out.a) ?_; have H8 := Lib.hid (H7.out.seta (n' := N)); generalize w7.setCells (w.heap.size + 1) 0 (dL N) = W8 at H8 ⊢; have f8 := frozen_at H8.out.a 128; have c8 := H8.out.a.scale) | (go_at_call 74; refine (OT.out _).mono ?_; rintro e w7 ⟨rfl, hb7⟩; have H7 := Lib.hid (H5.out.later hb7); clear hb7) | (go_at_call 80; refine (TL.out _).mono ?_; rintro e wx ⟨rfl, rfl⟩) | (go_at_call 79; refine (A2.out _).mono ?_; rintro e w5 ⟨rfl, hb5⟩; have H5 := Lib.hid (H4.out.later hb5); have c5 := H5.out.a.sign; clear hb5) | (go_at_call 79; refine (A1.out _).mono ?_; rintro e w4 ⟨rfl, hb4⟩; have H4 := Lib.hid (H3.out.later hb4); clear hb4))
                        exact bodyPost_ret (ret_numb rfl rfl rfl H8.out.sets.r.put) rfl ⟨rfl, below_row H8.out.sets.bl (by omega)⟩
                  · have hu2 : (31 : Int) < (uh.size : Int) := by omega
                    have hOf : O = false := by rw [RO]; simp [okU, ← HFU.out, hu]
                    clear RO
                    subst hOf
                    rw [if_neg (by decide)] at RN RS
                    rw [Bool.false_and] at RB
                    subst RN RS RB
                    go_wp2_with (first | (go_at_call 80; refine (TL.out _).mono ?_; rintro e wx ⟨rfl, rfl⟩) | (go_at_call 79; refine (A2.out _).mono ?_; rintro e w5 ⟨rfl, hb5⟩; have H5 := Lib.hid (H4.out.later hb5); have c5 := H5.out.a.sign; clear hb5) | (go_at_call 79; refine (A1.out _).mono ?_; rintro e w4 ⟨rfl, hb4⟩; have H4 := Lib.hid (H3.out.later hb4); clear hb4) | (rw [zero45]; refine wpList_storeV rfl 45 _ _ rfl ⟨w.heap.size, 0, none⟩ rfl (.agg (nC 0 0 false)) rfl _ (store_num H5.out.r) ?_))
                    exact bodyPost_ret (ret_numb rfl rfl rfl H5.out.r.put) rfl ⟨rfl, below_row H5.out.bl (by omega)⟩
                · have hOf : O = false := by rw [RO]; simp only [okB, ← HFB.out, hB31, decide_false, Bool.and_false, Bool.false_and]
                  have hB31i : (31 : Int) < (bh.size : Int) := by omega
                  clear RO
                  subst hOf
                  rw [if_neg (by decide)] at RN RS
                  rw [Bool.false_and] at RB
                  subst RN RS RB
                  go_wp2_with (first | (go_at_call 79; refine (A2.out _).mono ?_; rintro e w5 ⟨rfl, hb5⟩; have H5 := Lib.hid (H4.out.later hb5); have c5 := H5.out.a.sign; clear hb5) | (go_at_call 79; refine (A1.out _).mono ?_; rintro e w4 ⟨rfl, hb4⟩; have H4 := Lib.hid (H3.out.later hb4); clear hb4) | (rw [zero45]; refine wpList_storeV rfl 45 _ _ rfl ⟨w.heap.size, 0, none⟩ rfl (.agg (nC 0 0 false)) rfl _ (store_num H5.out.r) ?_))
                  exact bodyPost_ret (ret_numb rfl rfl rfl H5.out.r.put) rfl ⟨rfl, below_row H5.out.bl (by omega)⟩
          · have hA2f : allD bl = false := by simpa using hA2
            have hOf : O = false := by rw [RO]; simp [okB, hA2f]
            rw [hA2f] at A2
            clear RO
            subst hOf
            rw [if_neg (by decide)] at RN RS
            rw [Bool.false_and] at RB
            subst RN RS RB
            go_wp2_with (first | (go_at_call 79; refine (A2.out _).mono ?_; rintro e w5 ⟨rfl, hb5⟩; have H5 := Lib.hid (H4.out.later hb5); have c5 := H5.out.a.sign; clear hb5) | (go_at_call 79; refine (A1.out _).mono ?_; rintro e w4 ⟨rfl, hb4⟩; have H4 := Lib.hid (H3.out.later hb4); clear hb4) | (rw [zero45]; refine wpList_storeV rfl 45 _ _ rfl ⟨w.heap.size, 0, none⟩ rfl (.agg (nC 0 0 false)) rfl _ (store_num H5.out.r) ?_))
            exact bodyPost_ret (ret_numb rfl rfl rfl H5.out.r.put) rfl ⟨rfl, below_row H5.out.bl (by omega)⟩
        | cons d r =>
          have hOf : O = false := by rw [RO]; simp [okW]
          clear RO
          subst hOf
          rw [if_neg (by decide)] at RN RS
          rw [Bool.false_and] at RB
          subst RN RS RB
          go_wp2_with (first | (go_at_call 79; refine (A1.out _).mono ?_; rintro e w4 ⟨rfl, hb4⟩; have H4 := Lib.hid (H3.out.later hb4); clear hb4) | (rw [zero45]; refine wpList_storeV rfl 45 _ _ rfl ⟨w.heap.size, 0, none⟩ rfl (.agg (nC 0 0 false)) rfl _ (store_num H4.out.r) ?_))
          exact bodyPost_ret (ret_numb rfl rfl rfl H4.out.r.put) rfl ⟨rfl, below_row H4.out.bl (by omega)⟩
      · have hc1 : ¬ (c.toNat : Int) = 48 := fun g => hc (UInt8.toNat_inj.1 (by have : (48 : UInt8).toNat = 48 := rfl; omega))
        have hc2 : ((c.toNat : Int) == 48) = false := beq_false_of_ne hc1
        have hWk : okW (c :: r) = true := by
          simp_all [okW]
        by_cases hA2 : allD bl = true
        · rw [hA2] at A2
          have HA2 := Lib.hid hA2
          cases P with
          | false =>
            by_cases hB31 : bh.size ≤ 31
            · clear hA
              have hBk : okB bl false = true := by unfold okB; rw [hA2, ← HFB.out, decide_eq_true hB31]; rfl
              have hB31i : ¬ (31 : Int) < (bh.size : Int) := by omega
              by_cases hu : uh.size ≤ 31
              · have hu2 : ¬ (31 : Int) < (uh.size : Int) := by omega
                have HU31 := Lib.hid (show ul.length ≤ 31 from HFU.out ▸ hu)
                cases S with
                | false =>
                  have hUk : okU ul false = true := by unfold okU; rw [decide_eq_true HU31.out]; rfl
                  have hOt : O = true := by rw [RO, hWk, hBk, hUk]; rfl
                  clear RO
                  subst hOt
                  rw [if_pos rfl] at RN RS
                  rw [Bool.true_and] at RB
                  subst RN RS RB
                  have OT := Lib.hid fun wx => OT.out wx (HU.out HA.out HA2.out) HU31.out
                  rw [HT.out (HU.out HA.out HA2.out)] at OT
                  clear HU
                  go_wp2_with (first | refine wpList_storeV rfl 45 _ _ rfl ⟨w.heap.size, 0, none⟩ rfl (.agg (nC N bh.size false)) rfl _ (store_num H8.out.sets.r) ?_ | refine wpList_loadV rfl 45 _ rfl ⟨w.heap.size + 1, 0, none⟩ rfl _ (load_num H8.out.sets.a) ?_ | (refine wpList_storeV rfl 43 _ _ rfl ⟨w.heap.size + 1, 0, none⟩ rfl (.agg (dC N)) rfl _ (store_numdig H7.out.a) ?_; have H8 := Lib.hid (H7.out.seta (n' := N)); generalize w7.setCells (w.heap.size + 1) 0 (dL N) = W8 at H8 ⊢; have f8 := frozen_at H8.out.a 128; have c8 := H8.out.a.scale) | (go_at_call 74; refine (OT.out _).mono ?_; rintro e w7 ⟨rfl, hb7⟩; have H7 := Lib.hid (H5.out.later hb7); clear hb7) | (go_at_call 80; refine (TL.out _).mono ?_; rintro e wx ⟨rfl, rfl⟩) | (go_at_call 79; refine (A2.out _).mono ?_; rintro e w5 ⟨rfl, hb5⟩; have H5 := Lib.hid (H4.out.later hb5); have c5 := H5.out.a.sign; clear hb5) | (go_at_call 79; refine (A1.out _).mono ?_; rintro e w4 ⟨rfl, hb4⟩; have H4 := Lib.hid (H3.out.later hb4); clear hb4))
                  exact bodyPost_ret (ret_numb rfl rfl rfl H8.out.sets.r.put) rfl ⟨rfl, below_row H8.out.sets.bl (by omega)⟩
                | true =>
                  cases hq : ul with
                  | nil =>
                    subst hq
                    have hOf : O = false := by rw [RO]; simp [okU]
                    clear RO
                    subst hOf
                    rw [if_neg (by decide)] at RN RS
                    rw [Bool.false_and] at RB
                    subst RN RS RB
                    go_wp2_with (first | (go_at_call 80; refine (TL.out _).mono ?_; rintro e wx ⟨rfl, rfl⟩) | (go_at_call 79; refine (A2.out _).mono ?_; rintro e w5 ⟨rfl, hb5⟩; have H5 := Lib.hid (H4.out.later hb5); have c5 := H5.out.a.sign; clear hb5) | (go_at_call 79; refine (A1.out _).mono ?_; rintro e w4 ⟨rfl, hb4⟩; have H4 := Lib.hid (H3.out.later hb4); clear hb4) | (rw [zero45]; refine wpList_storeV rfl 45 _ _ rfl ⟨w.heap.size, 0, none⟩ rfl (.agg (nC 0 0 false)) rfl _ (store_num H5.out.r) ?_))
                    exact bodyPost_ret (ret_numb rfl rfl rfl H5.out.r.put) rfl ⟨rfl, below_row H5.out.bl (by omega)⟩
                  | cons y9 r9 =>
                    subst hq
                    have hUk : okU (y9 :: r9) true = true := by unfold okU; rw [decide_eq_true HU31.out]; rfl
                    have hOt : O = true := by rw [RO, hWk, hBk, hUk]; rfl
                    clear RO
                    subst hOt
                    rw [if_pos rfl] at RN RS
                    rw [Bool.true_and] at RB
                    subst RN RS RB
                    have OT := Lib.hid fun wx => OT.out wx (HU.out HA.out HA2.out) HU31.out
                    rw [HT.out (HU.out HA.out HA2.out)] at OT
                    clear HU
                    go_wp2_with (first | refine wpList_storeV rfl 45 _ _ rfl ⟨w.heap.size, 0, none⟩ rfl (.agg (nC N bh.size true)) rfl _ (store_num H8.out.sets.r) ?_ | refine wpList_loadV rfl 45 _ rfl ⟨w.heap.size + 1, 0, none⟩ rfl _ (load_num H8.out.sets.a) ?_ | (refine wpList_storeV rfl 43 _ _ rfl ⟨w.heap.size + 1, 0, none⟩ rfl (.agg (dC N)) rfl _ (store_numdig H7.out.a) ?_; have H8 := Lib.hid (H7.out.seta (n' := N)); generalize w7.setCells (w.heap.size + 1) 0 (dL N) = W8 at H8 ⊢; have f8 := frozen_at H8.out.a 128; have c8 := H8.out.a.scale) | (go_at_call 74; refine (OT.out _).mono ?_; rintro e w7 ⟨rfl, hb7⟩; have H7 := Lib.hid (H5.out.later hb7); clear hb7) | (go_at_call 80; refine (TL.out _).mono ?_; rintro e wx ⟨rfl, rfl⟩) | (go_at_call 79; refine (A2.out _).mono ?_; rintro e w5 ⟨rfl, hb5⟩; have H5 := Lib.hid (H4.out.later hb5); have c5 := H5.out.a.sign; clear hb5) | (go_at_call 79; refine (A1.out _).mono ?_; rintro e w4 ⟨rfl, hb4⟩; have H4 := Lib.hid (H3.out.later hb4); clear hb4))
                    exact bodyPost_ret (ret_numb rfl rfl rfl H8.out.sets.r.put) rfl ⟨rfl, below_row H8.out.sets.bl (by omega)⟩
              · have hu2 : (31 : Int) < (uh.size : Int) := by omega
                have hOf : O = false := by rw [RO]; simp [okU, ← HFU.out, hu]
                clear RO
                subst hOf
                rw [if_neg (by decide)] at RN RS
                rw [Bool.false_and] at RB
                subst RN RS RB
                go_wp2_with (first | (go_at_call 80; refine (TL.out _).mono ?_; rintro e wx ⟨rfl, rfl⟩) | (go_at_call 79; refine (A2.out _).mono ?_; rintro e w5 ⟨rfl, hb5⟩; have H5 := Lib.hid (H4.out.later hb5); have c5 := H5.out.a.sign; clear hb5) | (go_at_call 79; refine (A1.out _).mono ?_; rintro e w4 ⟨rfl, hb4⟩; have H4 := Lib.hid (H3.out.later hb4); clear hb4) | (rw [zero45]; refine wpList_storeV rfl 45 _ _ rfl ⟨w.heap.size, 0, none⟩ rfl (.agg (nC 0 0 false)) rfl _ (store_num H5.out.r) ?_))
                exact bodyPost_ret (ret_numb rfl rfl rfl H5.out.r.put) rfl ⟨rfl, below_row H5.out.bl (by omega)⟩
            · have hOf : O = false := by rw [RO]; simp [okB, ← HFB.out, hB31]
              have hB31i : (31 : Int) < (bh.size : Int) := by omega
              clear RO
              subst hOf
              rw [if_neg (by decide)] at RN RS
              rw [Bool.false_and] at RB
              subst RN RS RB
              go_wp2_with (first | (go_at_call 79; refine (A2.out _).mono ?_; rintro e w5 ⟨rfl, hb5⟩; have H5 := Lib.hid (H4.out.later hb5); have c5 := H5.out.a.sign; clear hb5) | (go_at_call 79; refine (A1.out _).mono ?_; rintro e w4 ⟨rfl, hb4⟩; have H4 := Lib.hid (H3.out.later hb4); clear hb4) | (rw [zero45]; refine wpList_storeV rfl 45 _ _ rfl ⟨w.heap.size, 0, none⟩ rfl (.agg (nC 0 0 false)) rfl _ (store_num H5.out.r) ?_))
              exact bodyPost_ret (ret_numb rfl rfl rfl H5.out.r.put) rfl ⟨rfl, below_row H5.out.bl (by omega)⟩
          | true =>
            cases hbl : bl with
            | nil =>
              subst hbl
              have hOf : O = false := by rw [RO]; simp [okB]
              clear RO
              subst hOf
              rw [if_neg (by decide)] at RN RS
              rw [Bool.false_and] at RB
              subst RN RS RB
              go_wp2_with (first | (go_at_call 79; refine (A2.out _).mono ?_; rintro e w5 ⟨rfl, hb5⟩; have H5 := Lib.hid (H4.out.later hb5); have c5 := H5.out.a.sign; clear hb5) | (go_at_call 79; refine (A1.out _).mono ?_; rintro e w4 ⟨rfl, hb4⟩; have H4 := Lib.hid (H3.out.later hb4); clear hb4) | (rw [zero45]; refine wpList_storeV rfl 45 _ _ rfl ⟨w.heap.size, 0, none⟩ rfl (.agg (nC 0 0 false)) rfl _ (store_num H5.out.r) ?_))
              exact bodyPost_ret (ret_numb rfl rfl rfl H5.out.r.put) rfl ⟨rfl, below_row H5.out.bl (by omega)⟩
            | cons y r8 =>
              subst hbl
              by_cases hB31 : bh.size ≤ 31
              · clear hA
                have hBk : okB (y :: r8) true = true := by unfold okB; rw [hA2, ← HFB.out, decide_eq_true hB31]; rfl
                have hB31i : ¬ (31 : Int) < (bh.size : Int) := by omega
                by_cases hu : uh.size ≤ 31
                · have hu2 : ¬ (31 : Int) < (uh.size : Int) := by omega
                  have HU31 := Lib.hid (show ul.length ≤ 31 from HFU.out ▸ hu)
                  cases S with
                  | false =>
                    have hUk : okU ul false = true := by unfold okU; rw [decide_eq_true HU31.out]; rfl
                    have hOt : O = true := by rw [RO, hWk, hBk, hUk]; rfl
                    clear RO
                    subst hOt
                    rw [if_pos rfl] at RN RS
                    rw [Bool.true_and] at RB
                    subst RN RS RB
                    have OT := Lib.hid fun wx => OT.out wx (HU.out HA.out HA2.out) HU31.out
                    rw [HT.out (HU.out HA.out HA2.out)] at OT
                    clear HU
                    go_wp2_with (first | refine wpList_storeV rfl 45 _ _ rfl ⟨w.heap.size, 0, none⟩ rfl (.agg (nC N bh.size false)) rfl _ (store_num H8.out.sets.r) ?_ | refine wpList_loadV rfl 45 _ rfl ⟨w.heap.size + 1, 0, none⟩ rfl _ (load_num H8.out.sets.a) ?_ | (refine wpList_storeV rfl 43 _ _ rfl ⟨w.heap.size + 1, 0, none⟩ rfl (.agg (dC N)) rfl _ (store_numdig H7.out.a) ?_; have H8 := Lib.hid (H7.out.seta (n' := N)); generalize w7.setCells (w.heap.size + 1) 0 (dL N) = W8 at H8 ⊢; have f8 := frozen_at H8.out.a 128; have c8 := H8.out.a.scale) | (go_at_call 74; refine (OT.out _).mono ?_; rintro e w7 ⟨rfl, hb7⟩; have H7 := Lib.hid (H5.out.later hb7); clear hb7) | (go_at_call 80; refine (TL.out _).mono ?_; rintro e wx ⟨rfl, rfl⟩) | (go_at_call 79; refine (A2.out _).mono ?_; rintro e w5 ⟨rfl, hb5⟩; have H5 := Lib.hid (H4.out.later hb5); have c5 := H5.out.a.sign; clear hb5) | (go_at_call 79; refine (A1.out _).mono ?_; rintro e w4 ⟨rfl, hb4⟩; have H4 := Lib.hid (H3.out.later hb4); clear hb4))
                    exact bodyPost_ret (ret_numb rfl rfl rfl H8.out.sets.r.put) rfl ⟨rfl, below_row H8.out.sets.bl (by omega)⟩
                  | true =>
                    cases hq : ul with
                    | nil =>
                      subst hq
                      have hOf : O = false := by rw [RO]; simp [okU]
                      clear RO
                      subst hOf
                      rw [if_neg (by decide)] at RN RS
                      rw [Bool.false_and] at RB
                      subst RN RS RB
                      go_wp2_with (first | (go_at_call 80; refine (TL.out _).mono ?_; rintro e wx ⟨rfl, rfl⟩) | (go_at_call 79; refine (A2.out _).mono ?_; rintro e w5 ⟨rfl, hb5⟩; have H5 := Lib.hid (H4.out.later hb5); have c5 := H5.out.a.sign; clear hb5) | (go_at_call 79; refine (A1.out _).mono ?_; rintro e w4 ⟨rfl, hb4⟩; have H4 := Lib.hid (H3.out.later hb4); clear hb4) | (rw [zero45]; refine wpList_storeV rfl 45 _ _ rfl ⟨w.heap.size, 0, none⟩ rfl (.agg (nC 0 0 false)) rfl _ (store_num H5.out.r) ?_))
                      exact bodyPost_ret (ret_numb rfl rfl rfl H5.out.r.put) rfl ⟨rfl, below_row H5.out.bl (by omega)⟩
                    | cons y9 r9 =>
                      subst hq
                      have hUk : okU (y9 :: r9) true = true := by unfold okU; rw [decide_eq_true HU31.out]; rfl
                      have hOt : O = true := by rw [RO, hWk, hBk, hUk]; rfl
                      clear RO
                      subst hOt
                      rw [if_pos rfl] at RN RS
                      rw [Bool.true_and] at RB
                      subst RN RS RB
                      have OT := Lib.hid fun wx => OT.out wx (HU.out HA.out HA2.out) HU31.out
                      rw [HT.out (HU.out HA.out HA2.out)] at OT
                      clear HU
                      go_wp2_with (first | refine wpList_storeV rfl 45 _ _ rfl ⟨w.heap.size, 0, none⟩ rfl (.agg (nC N bh.size true)) rfl _ (store_num H8.out.sets.r) ?_ | refine wpList_loadV rfl 45 _ rfl ⟨w.heap.size + 1, 0, none⟩ rfl _ (load_num H8.out.sets.a) ?_ | (refine wpList_storeV rfl 43 _ _ rfl ⟨w.heap.size + 1, 0, none⟩ rfl (.agg (dC N)) rfl _ (store_numdig H7.out.a) ?_; have H8 := Lib.hid (H7.out.seta (n' := N)); generalize w7.setCells (w.heap.size + 1) 0 (dL N) = W8 at H8 ⊢; have f8 := frozen_at H8.out.a 128; have c8 := H8.out.a.scale) | (go_at_call 74; refine (OT.out _).mono ?_; rintro e w7 ⟨rfl, hb7⟩; have H7 := Lib.hid (H5.out.later hb7); clear hb7) | (go_at_call 80; refine (TL.out _).mono ?_; rintro e wx ⟨rfl, rfl⟩) | (go_at_call 79; refine (A2.out _).mono ?_; rintro e w5 ⟨rfl, hb5⟩; have H5 := Lib.hid (H4.out.later hb5); have c5 := H5.out.a.sign; clear hb5) | (go_at_call 79; refine (A1.out _).mono ?_; rintro e w4 ⟨rfl, hb4⟩; have H4 := Lib.hid (H3.out.later hb4); clear hb4))
                      exact bodyPost_ret (ret_numb rfl rfl rfl H8.out.sets.r.put) rfl ⟨rfl, below_row H8.out.sets.bl (by omega)⟩
                · have hu2 : (31 : Int) < (uh.size : Int) := by omega
                  have hOf : O = false := by rw [RO]; simp [okU, ← HFU.out, hu]
                  clear RO
                  subst hOf
                  rw [if_neg (by decide)] at RN RS
                  rw [Bool.false_and] at RB
                  subst RN RS RB
                  go_wp2_with (first | (go_at_call 80; refine (TL.out _).mono ?_; rintro e wx ⟨rfl, rfl⟩) | (go_at_call 79; refine (A2.out _).mono ?_; rintro e w5 ⟨rfl, hb5⟩; have H5 := Lib.hid (H4.out.later hb5); have c5 := H5.out.a.sign; clear hb5) | (go_at_call 79; refine (A1.out _).mono ?_; rintro e w4 ⟨rfl, hb4⟩; have H4 := Lib.hid (H3.out.later hb4); clear hb4) | (rw [zero45]; refine wpList_storeV rfl 45 _ _ rfl ⟨w.heap.size, 0, none⟩ rfl (.agg (nC 0 0 false)) rfl _ (store_num H5.out.r) ?_))
                  exact bodyPost_ret (ret_numb rfl rfl rfl H5.out.r.put) rfl ⟨rfl, below_row H5.out.bl (by omega)⟩
              · have hOf : O = false := by rw [RO]; simp only [okB, ← HFB.out, hB31, decide_false, Bool.and_false, Bool.false_and]
                have hB31i : (31 : Int) < (bh.size : Int) := by omega
                clear RO
                subst hOf
                rw [if_neg (by decide)] at RN RS
                rw [Bool.false_and] at RB
                subst RN RS RB
                go_wp2_with (first | (go_at_call 79; refine (A2.out _).mono ?_; rintro e w5 ⟨rfl, hb5⟩; have H5 := Lib.hid (H4.out.later hb5); have c5 := H5.out.a.sign; clear hb5) | (go_at_call 79; refine (A1.out _).mono ?_; rintro e w4 ⟨rfl, hb4⟩; have H4 := Lib.hid (H3.out.later hb4); clear hb4) | (rw [zero45]; refine wpList_storeV rfl 45 _ _ rfl ⟨w.heap.size, 0, none⟩ rfl (.agg (nC 0 0 false)) rfl _ (store_num H5.out.r) ?_))
                exact bodyPost_ret (ret_numb rfl rfl rfl H5.out.r.put) rfl ⟨rfl, below_row H5.out.bl (by omega)⟩
        · have hA2f : allD bl = false := by simpa using hA2
          have hOf : O = false := by rw [RO]; simp [okB, hA2f]
          rw [hA2f] at A2
          clear RO
          subst hOf
          rw [if_neg (by decide)] at RN RS
          rw [Bool.false_and] at RB
          subst RN RS RB
          go_wp2_with (first | (go_at_call 79; refine (A2.out _).mono ?_; rintro e w5 ⟨rfl, hb5⟩; have H5 := Lib.hid (H4.out.later hb5); have c5 := H5.out.a.sign; clear hb5) | (go_at_call 79; refine (A1.out _).mono ?_; rintro e w4 ⟨rfl, hb4⟩; have H4 := Lib.hid (H3.out.later hb4); clear hb4) | (rw [zero45]; refine wpList_storeV rfl 45 _ _ rfl ⟨w.heap.size, 0, none⟩ rfl (.agg (nC 0 0 false)) rfl _ (store_num H5.out.r) ?_))
          exact bodyPost_ret (ret_numb rfl rfl rfl H5.out.r.put) rfl ⟨rfl, below_row H5.out.bl (by omega)⟩
  · have hAf : allD wl = false := by simpa using hA
    have hOf : O = false := by rw [RO]; simp [okW, hAf]
    rw [hAf] at A1
    clear RO
    subst hOf
    rw [if_neg (by decide)] at RN RS
    rw [Bool.false_and] at RB
    subst RN RS RB
    go_wp2_with (first | (go_at_call 79; refine (A1.out _).mono ?_; rintro e w4 ⟨rfl, hb4⟩; have H4 := Lib.hid (H3.out.later hb4); clear hb4) | (rw [zero45]; refine wpList_storeV rfl 45 _ _ rfl ⟨w.heap.size, 0, none⟩ rfl (.agg (nC 0 0 false)) rfl _ (store_num H4.out.r) ?_))
    exact bodyPost_ret (ret_numb rfl rfl rfl H4.out.r.put) rfl ⟨rfl, below_row H4.out.bl (by omega)⟩

end Go.Proofs.YticbjhogdfpdkaaDoor
