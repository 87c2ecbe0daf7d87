/- The contract of the reference's Parse. -/
import Derived.Test.YtladjkkkhomngaaDoorPn
namespace Go.Proofs.YtladjkkkhomngaaDoor
set_option maxRecDepth 8000
open Go.RowKit Go.Sort Go.BigFrame

/-- What has been read so far lies in a row of its own. -/
structure RfI (w wr : World) (l : List PolD) (sv : Value) : Prop where
  own : wr.ownsRow w.heap.size 24 2 sv l.length (polCells l)
  below : Below w.heap.size w wr
theorem RfI.later {w wr wx : World} {l : List PolD} {sv : Value} (h : RfI w wr l sv) (hb : Below wr.heap.size wr wx) : RfI w wx l sv :=
  ⟨ownsRow_below h.own hb, h.below.trans (hb.mono h.below.size)⟩
theorem RfI.grown {w wr wx : World} {l : List PolD} {sv sv' : Value} {q v : Int} (h : RfI w wr l sv) (hg : wr.grownBy wx sv.ownBlock) (ho : wx.ownsRow w.heap.size 24 2 sv' (l.length + 1) (polCells l ++ [.int .i64 q, .int .i64 v])) : RfI w wx (l ++ [⟨q, v⟩]) sv' := by
  refine ⟨by rw [polCells_snoc, List.length_append]; exact ho, ?_⟩
  refine ⟨hg.os.trans h.below.os, hg.tape.trans h.below.tape, hg.output.trans h.below.output, Nat.le_trans h.below.size hg.size, fun j hj => (hg.block j (Nat.lt_of_lt_of_le hj h.below.size) fun e => ?_).trans (h.below.block j hj)⟩
  have := (h.own.lt j e.symm).1
  omega

set_option maxRecDepth 100000 in
set_option maxHeartbeats 8000000 in
theorem rparse_any (t : ByteArray) (ps : List ByteArray) (hps : partsB t = ps) (w : World) (h : TxtEnv w) (hs : t.size ≤ 1000) (h0 : 0 < t.size) (hn : ps.length ≤ 1000) (hps0 : ∀ i (h : i < ps.length), (ps[i]).size ≤ 1000) :
    Calls Tryd.prog 29 #[.string t] w fun e w' => ∃ l er, RowPost w l er e w' ∧ Canon t l er := by
  have SP := Lib.hid (split_any t w h (by omega))
  have s1 : ¬ (65536 : Int) < (t.size : Int) := by omega
  have s2 : decide ((65536 : Int) < (t.size : Int)) = false := by simp; omega
  have s4 : t.toList.isEmpty = false := by
    obtain ⟨⟨x⟩⟩ := t
    rw [ByteArray.toList_mk]
    cases x with
    | nil => simp [ByteArray.size] at h0
    | cons a r => rfl
  rw [hps] at SP
  have RC := Lib.hid fun l (hr : RefRead ps l) => ref_canon hps h0 hr
  have HE := Lib.hid fun wx (hx : Below w.heap.size w wx) => h.below hx
  have HN := Lib.hid hn
  have HPS := Lib.hid hps0
  clear h hs h0 hn hps hps0
  obtain ⟨i0, hi, hz0, hz1, hz2⟩ := info_parts Tryd.info46
  go_enter Tryd.func29, Tryd.ntmps29
  go_wp2_with (go_at_call 56; refine SP.out.mono ?_; rintro e w1 ⟨b, c, rfl, hst, hb1⟩; have B1 := Lib.hid hb1; have HST := Lib.hid hst; clear hb1 hst)
  go_loopw [4, 23] (fun v i wr => ∃ k : Nat, i = .int .i64 k ∧ k ≤ ps.length ∧ ∃ l, RefRead (ps.take k) l ∧ RfI w1 wr l v) (fun _ i _ => ps.length - (intOf i).toNat)
  case atStart => exact ⟨0, rfl, Nat.zero_le _, [], .nil, World.ownsRow_nil _ _ _ _, Below.refl _ _⟩
  case round =>
    obtain ⟨k, rfl, hk, l, hread, hinv⟩ := hrel
    have HI := Lib.hid hinv
    have HR := Lib.hid hread
    clear hinv hread
    by_cases hlt : k < ps.length
    · have c0 := (HST.out.below HI.out.below).2 k ps[k] (List.getElem?_eq_getElem hlt)
      have hsz := HPS.out k hlt
      obtain ⟨pt, hpt⟩ : ∃ pt, ps[k] = pt := ⟨_, rfl⟩
      rw [hpt] at c0 hsz
      have HPT := Lib.hid hpt
      have HEr := Lib.hid fun wx (hx : Below w1.heap.size w1 wx) => HE.out wx (B1.out.trans (hx.mono B1.out.size))
      have CU := Lib.hid (cut_any pt wr (HEr.out _ HI.out.below) (by omega))
      have HVS := Lib.hid (valB_size pt hsz)
      have hk1 : (k : Int) < (ps.length : Int) := by omega
      have hk2 : (k : Int) + 1 ≤ 9223372036854775807 := by have := HN.out; omega
      have hk0 : (0 : Int) ≤ (k : Int) := by omega
      have HLL : Hid (l.length ≤ 1000) := Lib.hid (by have h1 := HR.out.len; have h2 := List.length_take_le k ps; have := HN.out; omega)
      clear hpt hsz
      go_wp2_with (go_at_call 57; refine CU.out.mono ?_; rintro e w2 ⟨f, rfl, hb2⟩; have HI2 := Lib.hid (HI.out.later hb2); clear hb2)
      clear c0
      obtain ⟨nb, hnb⟩ : ∃ nb, nameB pt = nb := ⟨_, rfl⟩
      obtain ⟨vb, hvb⟩ : ∃ vb, valB pt = vb := ⟨_, rfl⟩
      rw [hnb, hvb]
      rw [hvb] at HVS
      have HNB := Lib.hid hnb
      have HVB := Lib.hid hvb
      clear hnb hvb
      go_loopw [4, 10] (fun v q wq => ∃ (j : Nat) (m : List PolD), q = .int .i64 j ∧ 1 ≤ j ∧ j ≤ 14 ∧ PartTo pt j m ∧ RfI w1 wq (l ++ m) v) (fun _ q _ => 14 - (intOf q).toNat)
      case atStart => exact ⟨1, [], rfl, by omega, by omega, PartTo.start pt, by rw [List.append_nil]; exact HI2.out⟩
      case round =>
        obtain ⟨j, m, rfl, hj1, hj2, hpart, hinv2⟩ := hrel
        have HP := Lib.hid hpart
        have HQ := Lib.hid hinv2
        clear hinv2 hpart
        by_cases hj : j ≤ 13
        · have WL := Lib.hid (wordsL_any (j : Int) wr (by simp only [isK, Bool.and_eq_true, decide_eq_true_eq]; omega))
          rw [show wordsL (j : Int) = wordsN j by unfold wordsL; simp] at WL
          have hroom := lenW_room j (by omega) hj1
          have hw0 := word_at j 0 (by omega)
          have HWA := Lib.hid fun i (hi : i < lenW j) => word_at j i hi
          obtain ⟨LN, hLN⟩ : ∃ LN, lenW j = LN := ⟨_, rfl⟩
          rw [show (wordsN j).length = LN from hLN] at WL
          rw [hLN] at HWA hroom
          obtain ⟨nm, hnm⟩ : ∃ nm, wordN j 0 = nm := ⟨_, rfl⟩
          rw [hnm] at hw0
          have HNM : Hid (nameN j = nm) := Lib.hid hnm
          have HW0 := Lib.hid hw0
          have HLN := Lib.hid hLN
          have g1 : (j : Int) ≤ 13 := by omega
          have g2 : decide ((j : Int) ≤ 13) = true := by simpa using g1
          have g3 : (0 : Int) < (LN : Int) := by omega
          have g4 : (j : Int) + 1 ≤ 9223372036854775807 := by omega
          have g5 : (0 : Int) ≤ (j : Int) := by omega
          have HJ := Lib.hid (And.intro hj1 hj)
          have HRO := Lib.hid hroom
          clear hj hj1 hj2 hroom hw0 hnm hLN
          by_cases he : nm = nb
          · have e1 := bytes_yes he
            have e2 : (nm.toList != nb.toList) = false := by simp [bne, e1]
            have hm0 : m = [] := HP.out.none HJ.out.1 (by have := HJ.out; omega) (by rw [HNM.out, HNB.out]; exact he)
            subst hm0
            rw [List.append_nil] at HQ
            have HKN : Hid (nameN j = nameB pt) := Lib.hid (by rw [HNM.out, HNB.out]; exact he)
            have AT := Lib.hid fun wx (hx : Below w1.heap.size w1 wx) => atoi_any vb wx (HEr.out _ hx) HVS.out
            clear he HP
            go_wp2_with (first | (go_at_call 44; refine (WL.out).mono ?_; rintro e w3 ⟨bw, rfl, hbw, hst, hb3⟩; have s0 := hst.2 0 _ HW0.out; have HQ3 := Lib.hid (HQ.out.later hb3); have HS3 := Lib.hid hst; clear hb3 hst hbw) | (go_at_call 60; refine (AT.out _ HQ3.out.below).mono ?_; rintro e w4 ⟨ev, rfl, hb4⟩; have HQ4 := Lib.hid (HQ3.out.later hb4); have HS4 := Lib.hid (HS3.out.below hb4); clear hb4))
            clear s0
            go_loopw [12, 14] (fun n i wi => wi = w4 ∧ ∃ (a : Int) (x : Nat), n = .int .i64 a ∧ i = .int .i64 x ∧ 1 ≤ x ∧ x ≤ LN ∧ RefTo j vb a x) (fun _ i _ => LN - (intOf i).toNat)
            case atStart => exact ⟨rfl, _, 1, rfl, rfl, by omega, HRO.out.1, RefTo.start j vb⟩
            case round =>
              obtain ⟨rfl, a, x, rfl, rfl, hx1, hx2, href⟩ := hrel
              have HF := Lib.hid href
              clear href
              by_cases hx : x < LN
              · have c1 := HS4.out.2 x _ (HWA.out x hx)
                obtain ⟨wd, hwd⟩ : ∃ wd, wordN j x = wd := ⟨_, rfl⟩
                rw [hwd] at c1
                have HWD := Lib.hid hwd
                have k1 : (x : Int) < (LN : Int) := by omega
                have k2 : (0 : Int) ≤ (x : Int) := by omega
                have k3 : (x : Int) + 1 ≤ 9223372036854775807 := by have := HRO.out; omega
                have HX := Lib.hid (And.intro hx1 hx)
                clear hwd hx hx1 hx2
                by_cases he2 : wd = vb
                · have e3 := bytes_yes he2
                  have HG : Hid (RefTo j vb x (x + 1)) := Lib.hid (RefTo.yes HX.out.1 (HWD.out.trans he2))
                  clear he2
                  go_wp2_with fail
                  exact ⟨⟨by first | trivial | rfl, x, x + 1, by first | rfl | trivial, by go_num, by omega, HX.out.2, HG.out⟩, by simp [intOf]; have := HX.out; omega⟩
                · have e3 := bytes_no he2
                  have HG : Hid (RefTo j vb a (x + 1)) := Lib.hid (HF.out.no (by rw [HWD.out]; exact he2))
                  clear he2
                  go_wp2_with fail
                  exact ⟨⟨by first | trivial | rfl, a, x + 1, by first | rfl | trivial, by go_num, by omega, HX.out.2, HG.out⟩, by simp [intOf]; have := HX.out; omega⟩
              · obtain rfl : x = LN := by omega
                have HFF : Hid (PartTo pt (j + 1) [⟨j, a⟩]) := Lib.hid (PartTo.yes HJ.out.1 HKN.out (by rw [HVB.out, HLN.out]; exact HF.out))
                clear hx hx1 hx2
                go_wp2_with (at_builtin; refine wpList_append_own_at _ rfl _ _ 22 rfl w1.heap.size 24 i0 (.agg #[.int .i64 0, .int .i64 0]) 2 16 under22 hi hz0 hz1 hz2 rfl (by decide) _ _ _ rfl (HQ4.out.own.alloc _) ⟨wr.heap.size, 0, none⟩ 1 1 [.int .i64 j, .int .i64 a] rfl rfl (cell_pol_new (heap_alloc_new _ _)) (by simp [Value.oneCell']) (by have := HLL.out; unfold maxLen; omega) (by have := HLL.out; omega) (by have := HQ4.out.below.size; simp; omega) ?_; intro v' w7 hown' hgrow _ _; have HQ7 := Lib.hid (RfI.grown (HQ4.out.later ((Below.refl _ _).alloc (Nat.le_refl _) _)) hgrow hown'); clear hown' hgrow)
                exact ⟨⟨j + 1, [⟨j, a⟩], by go_num, by omega, by have := HJ.out; omega, HFF.out, HQ7.out⟩, by simp [intOf]; have := HJ.out; omega⟩
          · have e1 := bytes_no he
            have e2 : (nm.toList != nb.toList) = true := by simp [bne, e1]
            have HF : Hid (PartTo pt (j + 1) m) := Lib.hid (HP.out.no (by rw [HNM.out, HNB.out]; exact he))
            clear he
            go_wp2_with (go_at_call 44; refine (WL.out).mono ?_; rintro e w3 ⟨bw, rfl, hbw, hst, hb3⟩; have s0 := hst.2 0 _ HW0.out; have HQ3 := Lib.hid (HQ.out.later hb3); clear hb3 hst hbw)
            exact ⟨⟨j + 1, m, by go_num, by omega, by have := HJ.out; omega, HF.out, HQ3.out⟩, by simp [intOf]; have := HJ.out; omega⟩
        · obtain rfl : j = 14 := by omega
          go_wp2_with fail
          exact ⟨⟨k + 1, by go_num, hlt, l ++ m, HR.out.take hlt (by rw [HPT.out]; exact HP.out), HQ.out⟩, by simp [intOf]; omega⟩
    · obtain rfl : k = ps.length := by omega
      obtain ⟨⟨da, dl, dc⟩, hd1, rfl, hok⟩ := sl_of_own HI.out.own
      simp only at hd1
      subst hd1
      have HO := Lib.hid hok
      have HRR : Hid (RefRead ps dl) := Lib.hid (by have := HR.out; rw [List.take_length] at this; exact this)
      have BR := Lib.hid (B1.out.trans (HI.out.below.mono B1.out.size))
      have FO := Lib.hid (rformat_any ⟨da, dl, dc⟩ wr (HE.out _ BR.out) hok (by have := HRR.out.len; have := HN.out; simp only; omega))
      simp only at FO
      clear hok
      unfold SlD.v
      simp only
      obtain ⟨fs, hfs⟩ : ∃ fs, fmtS dl = fs := ⟨_, rfl⟩
      rw [hfs] at FO
      by_cases he : fs = t
      · have e1 := bytes_yes he
        have e2 : (fs.toList != t.toList) = false := by simp [bne, e1]
        have HF := Lib.hid ((RC.out dl HRR.out).1 (hfs.trans he))
        clear he hfs
        go_wp2_with (go_at_call 30; refine FO.out.mono ?_; rintro e w8 ⟨rfl, hb8⟩; have B8 := Lib.hid (BR.out.trans (hb8.mono BR.out.size)); have N8 := Lib.hid hb8; clear hb8)
        go_ret2
        exact ⟨dl, 0, ⟨⟨da, dl, dc⟩, rfl, rfl, HO.out.below N8.out, B8.out⟩, HF.out⟩
      · have e1 := bytes_no he
        have e2 : (fs.toList != t.toList) = true := by simp [bne, e1]
        have HF := Lib.hid ((RC.out dl HRR.out).2 (by rw [hfs]; exact he))
        clear he hfs
        go_wp2_with (go_at_call 30; refine FO.out.mono ?_; rintro e w8 ⟨rfl, hb8⟩; have B8 := Lib.hid (BR.out.trans (hb8.mono BR.out.size)); clear hb8)
        go_ret2
        exact ⟨[], 2, RowPost.nil rfl rfl B8.out, HF.out⟩

end Go.Proofs.YtladjkkkhomngaaDoor
