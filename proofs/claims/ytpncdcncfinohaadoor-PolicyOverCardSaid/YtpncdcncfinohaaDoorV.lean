/- The contract of the reference's clashes: the pairs of kinds that clash in a row. -/
import Derived.Test.YtpncdcncfinohaaDoorU
namespace Go.Proofs.YtpncdcncfinohaaDoor
open Go.RowKit Go.Sort Go.BigFrame

/-- What the reference's clashes knows between two of its tests: the row of pairs. -/
structure RcI (w wr : World) (l : List PolD) (k : Nat) (sv : Value) : Prop where
  own : wr.ownsRow w.heap.size 38 2 sv (clTo l k).length (pairCells (clTo l k))
  below : Below w.heap.size w wr

theorem RcI.later {w wr wx : World} {l : List PolD} {k : Nat} {sv : Value} (h : RcI w wr l k sv) (hb : Below wr.heap.size wr wx) : RcI w wx l k sv :=
  ⟨ownsRow_below h.own hb, h.below.trans (hb.mono h.below.size)⟩
theorem RcI.no {w wr : World} {l : List PolD} {k : Nat} {sv : Value} (h : RcI w wr l k sv) (hc : clAt l k = false) : RcI w wr l (k + 1) sv :=
  ⟨by rw [clTo_no hc]; exact h.own, h.below⟩
theorem RcI.grown {w wr wx : World} {l : List PolD} {k : Nat} {sv sv' : Value} {x y : Int} (h : RcI w wr l k sv) (hg : wr.grownBy wx sv.ownBlock) (ho : wx.ownsRow w.heap.size 38 2 sv' ((clTo l k).length + 1) (pairCells (clTo l k) ++ [.int .i64 x, .int .i64 y]))
    (hxy : clK k = (x, y)) (hc : clAt l k = true) : RcI w wx l (k + 1) sv' := by
  refine ⟨?_, ?_⟩
  · rw [clTo_yes hc, pairCells_snoc, List.length_append, hxy]
    exact ho
  · refine ⟨hg.os.trans h.below.os, hg.tape.trans h.below.tape, hg.output.trans h.below.output, Nat.le_trans h.below.size hg.size, fun j hj => (hg.block j (Nat.lt_of_lt_of_le hj h.below.size) fun e => ?_).trans (h.below.block j hj)⟩
    have := (h.own.lt j e.symm).1
    omega

theorem val_bool {a b : Bool} (h : a = b) : Value.bool a = Value.bool b := by rw [h]

set_option maxRecDepth 100000 in
set_option maxHeartbeats 4000000 in
theorem rclashes_any (ao : Option Addr) (cap : Nat) (l : List PolD) (w : World) (h : RowAt w ao l) (hl : l.length ≤ 1000000) (h11 : 1 ≤ valOf l 11) :
    Calls Tryd.prog 34 #[.slice ao l.length cap] w fun e w' => ∃ sv, e = .returned sv ∧ RcI w w' l 7 sv := by
  have VV := Lib.hid fun q wx (hx : Below w.heap.size w wx) => value_any ao cap l q wx (h.below hx) (by omega)
  have HB11 := Lib.hid h11
  clear h hl h11
  obtain ⟨i0, hi, hz0, hz1, hz2⟩ := info_parts Tryd.info38
  have I0 : Hid (RcI w w l 0 (.slice none 0 0)) := Lib.hid ⟨World.ownsRow_nil _ _ _ _, Below.refl _ _⟩
  go_enter Tryd.func34, Tryd.ntmps34
  obtain ⟨a0, ha⟩ : ∃ a, valOf l 3 = a := ⟨_, rfl⟩
  obtain ⟨b0, hb⟩ : ∃ b, valOf l 6 = b := ⟨_, rfl⟩
  have VA0 := Lib.hid fun wx hx => VV.out 3 wx hx
  have VB0 := Lib.hid fun wx hx => VV.out 6 wx hx
  rw [ha] at VA0
  rw [hb] at VB0
  have HC0 : Hid (clAt l 0 = clB 0 a0 b0) := Lib.hid (by rw [← ha, ← hb]; rfl)
  clear ha hb
  go_upto_region 2 with fail
  go_cut [11] from 4 (fun s wx => s = .bool (clAt l 0) ∧ RcI w wx l 0 (.slice none 0 0))
  case first =>
    have RX : Hid (RcI w w l 0 (.slice none 0 0)) := Lib.hid I0.out
    by_cases h1 : a0 = 1
    · have e1 : (a0 == 1) = true := by simpa using h1
      by_cases h2 : b0 = 2
      · have e2 : (b0 == 2) = true := by simpa using h2
        have HT : Hid (true = clAt l 0) := Lib.hid (by rw [HC0.out]; simp [clB, h1, h2])
        clear h1 h2
        go_wp2_with (first | (go_at_call 30; (fail_if_success (have := X1)); refine (VA0.out _ I0.out.below).mono ?_; rintro e w1 ⟨rfl, hb1⟩; have X1 := Lib.hid (RX.out.later hb1); clear hb1) | (go_at_call 30; refine (VB0.out _ X1.out.below).mono ?_; rintro e w2 ⟨rfl, hb2⟩; have X2 := Lib.hid (X1.out.later hb2); clear hb2))
        go_meet
        case rel => exact ⟨val_bool HT.out, X2.out⟩
      · have e2 : (b0 == 2) = false := by simpa using h2
        have HT : Hid (false = clAt l 0) := Lib.hid (by rw [HC0.out]; simp [clB, h2])
        clear h1 h2
        go_wp2_with (first | (go_at_call 30; (fail_if_success (have := X1)); refine (VA0.out _ I0.out.below).mono ?_; rintro e w1 ⟨rfl, hb1⟩; have X1 := Lib.hid (RX.out.later hb1); clear hb1) | (go_at_call 30; refine (VB0.out _ X1.out.below).mono ?_; rintro e w2 ⟨rfl, hb2⟩; have X2 := Lib.hid (X1.out.later hb2); clear hb2))
        go_meet
        case rel => exact ⟨val_bool HT.out, X2.out⟩
    · have e1 : (a0 == 1) = false := by simpa using h1
      have HT : Hid (false = clAt l 0) := Lib.hid (by rw [HC0.out]; simp [clB, h1])
      clear h1
      go_wp2_with (go_at_call 30; (fail_if_success (have := X1)); refine (VA0.out _ I0.out.below).mono ?_; rintro e w1 ⟨rfl, hb1⟩; have X1 := Lib.hid (RX.out.later hb1); clear hb1)
      go_meet
      case rel => exact ⟨val_bool HT.out, X1.out⟩
  case rest =>
    obtain ⟨rfl, hJ⟩ := hcut
    have J0 := Lib.hid hJ
    have HL0 : Hid ((clTo l 0).length ≤ 7) := Lib.hid (by have := clTo_len l 0; omega)
    obtain ⟨r0, hr⟩ : ∃ r, clAt l 0 = r := ⟨_, rfl⟩
    have HR0 := Lib.hid hr
    rw [hr]
    clear hJ hr
    go_upto_if 11 with fail
    go_cut [3] from 4 (fun sv wx => RcI w wx l 1 sv)
    case first =>
      cases r0
      · go_wp2_with fail
        go_meet
        case rel => exact J0.out.no HR0.out
      · go_wp2_with (at_builtin; refine wpList_append_own_at _ rfl _ _ 35 rfl w.heap.size 38 i0 (.agg #[.int .i64 0, .int .i64 0]) 2 16 under35 hi hz0 hz1 hz2 rfl (by decide) _ _ _ rfl (J0.out.own.alloc _) ⟨wc.heap.size, 0, none⟩ 1 1 [.int .i64 3, .int .i64 6] rfl rfl (cell_pair_new (heap_alloc_new _ _)) (by simp [Value.oneCell']) (by have := HL0.out; unfold maxLen; omega) (by have := HL0.out; omega) (by have := J0.out.below.size; simp; omega) ?_; intro v' w6 hown' hgrow _ _; have HI6 := Lib.hid (RcI.grown (J0.out.later ((Below.refl _ _).alloc (Nat.le_refl _) _)) hgrow hown' rfl HR0.out); clear hown' hgrow)
        go_meet
        case rel => exact HI6.out
    case rest =>
      have I1 := Lib.hid hcut
      clear hcut
      obtain ⟨a1, ha⟩ : ∃ a, valOf l 4 = a := ⟨_, rfl⟩
      obtain ⟨b1, hb⟩ : ∃ b, valOf l 7 = b := ⟨_, rfl⟩
      have VA1 := Lib.hid fun wx hx => VV.out 4 wx hx
      have VB1 := Lib.hid fun wx hx => VV.out 7 wx hx
      rw [ha] at VA1
      rw [hb] at VB1
      have HC1 : Hid (clAt l 1 = clB 1 a1 b1) := Lib.hid (by rw [← ha, ← hb]; rfl)
      clear ha hb
      go_upto_region 4 with fail
      go_cut [23] from 4 (fun s wx => s = .bool (clAt l 1) ∧ RcI w wx l 1 u3)
      case first =>
        have RX : Hid (RcI w wc l 1 u3) := Lib.hid I1.out
        by_cases h1 : a1 = 2
        · have e1 : (a1 == 2) = true := by simpa using h1
          by_cases h2 : b1 = 2
          · have e2 : (b1 == 2) = true := by simpa using h2
            have HT : Hid (true = clAt l 1) := Lib.hid (by rw [HC1.out]; simp [clB, h1, h2])
            clear h1 h2
            go_wp2_with (first | (go_at_call 30; (fail_if_success (have := X1)); refine (VA1.out _ I1.out.below).mono ?_; rintro e w1 ⟨rfl, hb1⟩; have X1 := Lib.hid (RX.out.later hb1); clear hb1) | (go_at_call 30; refine (VB1.out _ X1.out.below).mono ?_; rintro e w2 ⟨rfl, hb2⟩; have X2 := Lib.hid (X1.out.later hb2); clear hb2))
            go_meet
            case rel => exact ⟨val_bool HT.out, X2.out⟩
          · have e2 : (b1 == 2) = false := by simpa using h2
            have HT : Hid (false = clAt l 1) := Lib.hid (by rw [HC1.out]; simp [clB, h2])
            clear h1 h2
            go_wp2_with (first | (go_at_call 30; (fail_if_success (have := X1)); refine (VA1.out _ I1.out.below).mono ?_; rintro e w1 ⟨rfl, hb1⟩; have X1 := Lib.hid (RX.out.later hb1); clear hb1) | (go_at_call 30; refine (VB1.out _ X1.out.below).mono ?_; rintro e w2 ⟨rfl, hb2⟩; have X2 := Lib.hid (X1.out.later hb2); clear hb2))
            go_meet
            case rel => exact ⟨val_bool HT.out, X2.out⟩
        · have e1 : (a1 == 2) = false := by simpa using h1
          have HT : Hid (false = clAt l 1) := Lib.hid (by rw [HC1.out]; simp [clB, h1])
          clear h1
          go_wp2_with (go_at_call 30; (fail_if_success (have := X1)); refine (VA1.out _ I1.out.below).mono ?_; rintro e w1 ⟨rfl, hb1⟩; have X1 := Lib.hid (RX.out.later hb1); clear hb1)
          go_meet
          case rel => exact ⟨val_bool HT.out, X1.out⟩
      case rest =>
        obtain ⟨rfl, hJ⟩ := hcut
        have J1 := Lib.hid hJ
        have HL1 : Hid ((clTo l 1).length ≤ 7) := Lib.hid (by have := clTo_len l 1; omega)
        obtain ⟨r1, hr⟩ : ∃ r, clAt l 1 = r := ⟨_, rfl⟩
        have HR1 := Lib.hid hr
        rw [hr]
        clear hJ hr
        go_upto_if 23 with fail
        go_cut [3] from 4 (fun sv wx => RcI w wx l 2 sv)
        case first =>
          cases r1
          · go_wp2_with fail
            go_meet
            case rel => exact J1.out.no HR1.out
          · go_wp2_with (at_builtin; refine wpList_append_own_at _ rfl _ _ 35 rfl w.heap.size 38 i0 (.agg #[.int .i64 0, .int .i64 0]) 2 16 under35 hi hz0 hz1 hz2 rfl (by decide) _ _ _ rfl (J1.out.own.alloc _) ⟨wc.heap.size, 0, none⟩ 1 1 [.int .i64 4, .int .i64 7] rfl rfl (cell_pair_new (heap_alloc_new _ _)) (by simp [Value.oneCell']) (by have := HL1.out; unfold maxLen; omega) (by have := HL1.out; omega) (by have := J1.out.below.size; simp; omega) ?_; intro v' w6 hown' hgrow _ _; have HI6 := Lib.hid (RcI.grown (J1.out.later ((Below.refl _ _).alloc (Nat.le_refl _) _)) hgrow hown' rfl HR1.out); clear hown' hgrow)
            go_meet
            case rel => exact HI6.out
        case rest =>
          have I2 := Lib.hid hcut
          clear hcut
          obtain ⟨a2, ha⟩ : ∃ a, valOf l 5 = a := ⟨_, rfl⟩
          obtain ⟨b2, hb⟩ : ∃ b, valOf l 6 = b := ⟨_, rfl⟩
          have VA2 := Lib.hid fun wx hx => VV.out 5 wx hx
          have VB2 := Lib.hid fun wx hx => VV.out 6 wx hx
          rw [ha] at VA2
          rw [hb] at VB2
          have HC2 : Hid (clAt l 2 = clB 2 a2 b2) := Lib.hid (by rw [← ha, ← hb]; rfl)
          clear ha hb
          go_upto_region 6 with fail
          go_cut [35] from 4 (fun s wx => s = .bool (clAt l 2) ∧ RcI w wx l 2 u3)
          case first =>
            have RX : Hid (RcI w wc l 2 u3) := Lib.hid I2.out
            by_cases h1 : a2 = 2
            · have e1 : (a2 == 2) = true := by simpa using h1
              by_cases h2 : b2 = 1
              · have e2 : (b2 == 1) = true := by simpa using h2
                have HT : Hid (true = clAt l 2) := Lib.hid (by rw [HC2.out]; simp [clB, h1, h2])
                clear h1 h2
                go_wp2_with (first | (go_at_call 30; (fail_if_success (have := X1)); refine (VA2.out _ I2.out.below).mono ?_; rintro e w1 ⟨rfl, hb1⟩; have X1 := Lib.hid (RX.out.later hb1); clear hb1) | (go_at_call 30; refine (VB2.out _ X1.out.below).mono ?_; rintro e w2 ⟨rfl, hb2⟩; have X2 := Lib.hid (X1.out.later hb2); clear hb2))
                go_meet
                case rel => exact ⟨val_bool HT.out, X2.out⟩
              · have e2 : (b2 == 1) = false := by simpa using h2
                have HT : Hid (false = clAt l 2) := Lib.hid (by rw [HC2.out]; simp [clB, h2])
                clear h1 h2
                go_wp2_with (first | (go_at_call 30; (fail_if_success (have := X1)); refine (VA2.out _ I2.out.below).mono ?_; rintro e w1 ⟨rfl, hb1⟩; have X1 := Lib.hid (RX.out.later hb1); clear hb1) | (go_at_call 30; refine (VB2.out _ X1.out.below).mono ?_; rintro e w2 ⟨rfl, hb2⟩; have X2 := Lib.hid (X1.out.later hb2); clear hb2))
                go_meet
                case rel => exact ⟨val_bool HT.out, X2.out⟩
            · have e1 : (a2 == 2) = false := by simpa using h1
              have HT : Hid (false = clAt l 2) := Lib.hid (by rw [HC2.out]; simp [clB, h1])
              clear h1
              go_wp2_with (go_at_call 30; (fail_if_success (have := X1)); refine (VA2.out _ I2.out.below).mono ?_; rintro e w1 ⟨rfl, hb1⟩; have X1 := Lib.hid (RX.out.later hb1); clear hb1)
              go_meet
              case rel => exact ⟨val_bool HT.out, X1.out⟩
          case rest =>
            obtain ⟨rfl, hJ⟩ := hcut
            have J2 := Lib.hid hJ
            have HL2 : Hid ((clTo l 2).length ≤ 7) := Lib.hid (by have := clTo_len l 2; omega)
            obtain ⟨r2, hr⟩ : ∃ r, clAt l 2 = r := ⟨_, rfl⟩
            have HR2 := Lib.hid hr
            rw [hr]
            clear hJ hr
            go_upto_if 35 with fail
            go_cut [3] from 4 (fun sv wx => RcI w wx l 3 sv)
            case first =>
              cases r2
              · go_wp2_with fail
                go_meet
                case rel => exact J2.out.no HR2.out
              · go_wp2_with (at_builtin; refine wpList_append_own_at _ rfl _ _ 35 rfl w.heap.size 38 i0 (.agg #[.int .i64 0, .int .i64 0]) 2 16 under35 hi hz0 hz1 hz2 rfl (by decide) _ _ _ rfl (J2.out.own.alloc _) ⟨wc.heap.size, 0, none⟩ 1 1 [.int .i64 5, .int .i64 6] rfl rfl (cell_pair_new (heap_alloc_new _ _)) (by simp [Value.oneCell']) (by have := HL2.out; unfold maxLen; omega) (by have := HL2.out; omega) (by have := J2.out.below.size; simp; omega) ?_; intro v' w6 hown' hgrow _ _; have HI6 := Lib.hid (RcI.grown (J2.out.later ((Below.refl _ _).alloc (Nat.le_refl _) _)) hgrow hown' rfl HR2.out); clear hown' hgrow)
                go_meet
                case rel => exact HI6.out
            case rest =>
              have I3 := Lib.hid hcut
              clear hcut
              obtain ⟨a3, ha⟩ : ∃ a, valOf l 5 = a := ⟨_, rfl⟩
              obtain ⟨b3, hb⟩ : ∃ b, valOf l 7 = b := ⟨_, rfl⟩
              have VA3 := Lib.hid fun wx hx => VV.out 5 wx hx
              have VB3 := Lib.hid fun wx hx => VV.out 7 wx hx
              rw [ha] at VA3
              rw [hb] at VB3
              have HC3 : Hid (clAt l 3 = clB 3 a3 b3) := Lib.hid (by rw [← ha, ← hb]; rfl)
              clear ha hb
              go_upto_region 8 with fail
              go_cut [47] from 4 (fun s wx => s = .bool (clAt l 3) ∧ RcI w wx l 3 u3)
              case first =>
                have RX : Hid (RcI w wc l 3 u3) := Lib.hid I3.out
                by_cases h1 : a3 = 2
                · have e1 : (a3 == 2) = true := by simpa using h1
                  by_cases h2 : b3 = 2
                  · have e2 : (b3 == 2) = true := by simpa using h2
                    have HT : Hid (true = clAt l 3) := Lib.hid (by rw [HC3.out]; simp [clB, h1, h2])
                    clear h1 h2
                    go_wp2_with (first | (go_at_call 30; (fail_if_success (have := X1)); refine (VA3.out _ I3.out.below).mono ?_; rintro e w1 ⟨rfl, hb1⟩; have X1 := Lib.hid (RX.out.later hb1); clear hb1) | (go_at_call 30; refine (VB3.out _ X1.out.below).mono ?_; rintro e w2 ⟨rfl, hb2⟩; have X2 := Lib.hid (X1.out.later hb2); clear hb2))
                    go_meet
                    case rel => exact ⟨val_bool HT.out, X2.out⟩
                  · have e2 : (b3 == 2) = false := by simpa using h2
                    have HT : Hid (false = clAt l 3) := Lib.hid (by rw [HC3.out]; simp [clB, h2])
                    clear h1 h2
                    go_wp2_with (first | (go_at_call 30; (fail_if_success (have := X1)); refine (VA3.out _ I3.out.below).mono ?_; rintro e w1 ⟨rfl, hb1⟩; have X1 := Lib.hid (RX.out.later hb1); clear hb1) | (go_at_call 30; refine (VB3.out _ X1.out.below).mono ?_; rintro e w2 ⟨rfl, hb2⟩; have X2 := Lib.hid (X1.out.later hb2); clear hb2))
                    go_meet
                    case rel => exact ⟨val_bool HT.out, X2.out⟩
                · have e1 : (a3 == 2) = false := by simpa using h1
                  have HT : Hid (false = clAt l 3) := Lib.hid (by rw [HC3.out]; simp [clB, h1])
                  clear h1
                  go_wp2_with (go_at_call 30; (fail_if_success (have := X1)); refine (VA3.out _ I3.out.below).mono ?_; rintro e w1 ⟨rfl, hb1⟩; have X1 := Lib.hid (RX.out.later hb1); clear hb1)
                  go_meet
                  case rel => exact ⟨val_bool HT.out, X1.out⟩
              case rest =>
                obtain ⟨rfl, hJ⟩ := hcut
                have J3 := Lib.hid hJ
                have HL3 : Hid ((clTo l 3).length ≤ 7) := Lib.hid (by have := clTo_len l 3; omega)
                obtain ⟨r3, hr⟩ : ∃ r, clAt l 3 = r := ⟨_, rfl⟩
                have HR3 := Lib.hid hr
                rw [hr]
                clear hJ hr
                go_upto_if 47 with fail
                go_cut [3] from 4 (fun sv wx => RcI w wx l 4 sv)
                case first =>
                  cases r3
                  · go_wp2_with fail
                    go_meet
                    case rel => exact J3.out.no HR3.out
                  · go_wp2_with (at_builtin; refine wpList_append_own_at _ rfl _ _ 35 rfl w.heap.size 38 i0 (.agg #[.int .i64 0, .int .i64 0]) 2 16 under35 hi hz0 hz1 hz2 rfl (by decide) _ _ _ rfl (J3.out.own.alloc _) ⟨wc.heap.size, 0, none⟩ 1 1 [.int .i64 5, .int .i64 7] rfl rfl (cell_pair_new (heap_alloc_new _ _)) (by simp [Value.oneCell']) (by have := HL3.out; unfold maxLen; omega) (by have := HL3.out; omega) (by have := J3.out.below.size; simp; omega) ?_; intro v' w6 hown' hgrow _ _; have HI6 := Lib.hid (RcI.grown (J3.out.later ((Below.refl _ _).alloc (Nat.le_refl _) _)) hgrow hown' rfl HR3.out); clear hown' hgrow)
                    go_meet
                    case rel => exact HI6.out
                case rest =>
                  have I4 := Lib.hid hcut
                  clear hcut
                  obtain ⟨a4, ha⟩ : ∃ a, valOf l 8 = a := ⟨_, rfl⟩
                  obtain ⟨b4, hb⟩ : ∃ b, valOf l 11 = b := ⟨_, rfl⟩
                  have VA4 := Lib.hid fun wx hx => VV.out 8 wx hx
                  have VB4 := Lib.hid fun wx hx => VV.out 11 wx hx
                  rw [ha] at VA4
                  rw [hb] at VB4
                  have HC4 : Hid (clAt l 4 = clB 4 a4 b4) := Lib.hid (by rw [← ha, ← hb]; rfl)
                  have HBD : Hid (1 ≤ b4) := Lib.hid (by rw [← hb]; exact HB11.out)
                  clear ha hb
                  go_upto_region 10 with fail
                  go_cut [59] from 4 (fun s wx => s = .bool (clAt l 4) ∧ RcI w wx l 4 u3)
                  case first =>
                    have RX : Hid (RcI w wc l 4 u3) := Lib.hid I4.out
                    by_cases h1 : a4 = 3
                    · have e1 : (a4 == 3) = true := by simpa using h1
                      by_cases h2 : b4 = 1
                      · have e2 : (b4 != 1) = false := by simpa using h2
                        have HT : Hid (false = clAt l 4) := Lib.hid (by rw [HC4.out]; simp [clB, h1, h2])
                        clear h1 h2
                        go_wp2_with (first | (go_at_call 30; (fail_if_success (have := X1)); refine (VA4.out _ I4.out.below).mono ?_; rintro e w1 ⟨rfl, hb1⟩; have X1 := Lib.hid (RX.out.later hb1); clear hb1) | (go_at_call 30; refine (VB4.out _ X1.out.below).mono ?_; rintro e w2 ⟨rfl, hb2⟩; have X2 := Lib.hid (X1.out.later hb2); clear hb2))
                        go_meet
                        case rel => exact ⟨val_bool HT.out, X2.out⟩
                      · have e2 : (b4 != 1) = true := by simpa using h2
                        have HT : Hid (true = clAt l 4) := Lib.hid (by have hh := HBD.out; have h3 : 2 ≤ b4 := (by omega); rw [HC4.out]; simp [clB, h1, h3])
                        clear h1 h2
                        go_wp2_with (first | (go_at_call 30; (fail_if_success (have := X1)); refine (VA4.out _ I4.out.below).mono ?_; rintro e w1 ⟨rfl, hb1⟩; have X1 := Lib.hid (RX.out.later hb1); clear hb1) | (go_at_call 30; refine (VB4.out _ X1.out.below).mono ?_; rintro e w2 ⟨rfl, hb2⟩; have X2 := Lib.hid (X1.out.later hb2); clear hb2))
                        go_meet
                        case rel => exact ⟨val_bool HT.out, X2.out⟩
                    · have e1 : (a4 == 3) = false := by simpa using h1
                      have HT : Hid (false = clAt l 4) := Lib.hid (by rw [HC4.out]; simp [clB, h1])
                      clear h1
                      go_wp2_with (go_at_call 30; (fail_if_success (have := X1)); refine (VA4.out _ I4.out.below).mono ?_; rintro e w1 ⟨rfl, hb1⟩; have X1 := Lib.hid (RX.out.later hb1); clear hb1)
                      go_meet
                      case rel => exact ⟨val_bool HT.out, X1.out⟩
                  case rest =>
                    obtain ⟨rfl, hJ⟩ := hcut
                    have J4 := Lib.hid hJ
                    have HL4 : Hid ((clTo l 4).length ≤ 7) := Lib.hid (by have := clTo_len l 4; omega)
                    obtain ⟨r4, hr⟩ : ∃ r, clAt l 4 = r := ⟨_, rfl⟩
                    have HR4 := Lib.hid hr
                    rw [hr]
                    clear hJ hr
                    go_upto_if 59 with fail
                    go_cut [3] from 4 (fun sv wx => RcI w wx l 5 sv)
                    case first =>
                      cases r4
                      · go_wp2_with fail
                        go_meet
                        case rel => exact J4.out.no HR4.out
                      · go_wp2_with (at_builtin; refine wpList_append_own_at _ rfl _ _ 35 rfl w.heap.size 38 i0 (.agg #[.int .i64 0, .int .i64 0]) 2 16 under35 hi hz0 hz1 hz2 rfl (by decide) _ _ _ rfl (J4.out.own.alloc _) ⟨wc.heap.size, 0, none⟩ 1 1 [.int .i64 8, .int .i64 11] rfl rfl (cell_pair_new (heap_alloc_new _ _)) (by simp [Value.oneCell']) (by have := HL4.out; unfold maxLen; omega) (by have := HL4.out; omega) (by have := J4.out.below.size; simp; omega) ?_; intro v' w6 hown' hgrow _ _; have HI6 := Lib.hid (RcI.grown (J4.out.later ((Below.refl _ _).alloc (Nat.le_refl _) _)) hgrow hown' rfl HR4.out); clear hown' hgrow)
                        go_meet
                        case rel => exact HI6.out
                    case rest =>
                      have I5 := Lib.hid hcut
                      clear hcut
                      obtain ⟨a5, ha⟩ : ∃ a, valOf l 9 = a := ⟨_, rfl⟩
                      obtain ⟨b5, hb⟩ : ∃ b, valOf l 11 = b := ⟨_, rfl⟩
                      have VA5 := Lib.hid fun wx hx => VV.out 9 wx hx
                      have VB5 := Lib.hid fun wx hx => VV.out 11 wx hx
                      rw [ha] at VA5
                      rw [hb] at VB5
                      have HC5 : Hid (clAt l 5 = clB 5 a5 b5) := Lib.hid (by rw [← ha, ← hb]; rfl)
                      clear ha hb
                      go_upto_region 12 with fail
                      go_cut [71] from 4 (fun s wx => s = .bool (clAt l 5) ∧ RcI w wx l 5 u3)
                      case first =>
                        have RX : Hid (RcI w wc l 5 u3) := Lib.hid I5.out
                        by_cases h1 : a5 ≤ 2
                        · have e1 : decide (a5 ≤ 2) = true := by simpa using h1
                          by_cases h2 : b5 = 3
                          · have e2 : (b5 == 3) = true := by simpa using h2
                            have HT : Hid (true = clAt l 5) := Lib.hid (by rw [HC5.out]; simp [clB, h1, h2])
                            clear h1 h2
                            go_wp2_with (first | (go_at_call 30; (fail_if_success (have := X1)); refine (VA5.out _ I5.out.below).mono ?_; rintro e w1 ⟨rfl, hb1⟩; have X1 := Lib.hid (RX.out.later hb1); clear hb1) | (go_at_call 30; refine (VB5.out _ X1.out.below).mono ?_; rintro e w2 ⟨rfl, hb2⟩; have X2 := Lib.hid (X1.out.later hb2); clear hb2))
                            go_meet
                            case rel => exact ⟨val_bool HT.out, X2.out⟩
                          · have e2 : (b5 == 3) = false := by simpa using h2
                            have HT : Hid (false = clAt l 5) := Lib.hid (by rw [HC5.out]; simp [clB, h2])
                            clear h1 h2
                            go_wp2_with (first | (go_at_call 30; (fail_if_success (have := X1)); refine (VA5.out _ I5.out.below).mono ?_; rintro e w1 ⟨rfl, hb1⟩; have X1 := Lib.hid (RX.out.later hb1); clear hb1) | (go_at_call 30; refine (VB5.out _ X1.out.below).mono ?_; rintro e w2 ⟨rfl, hb2⟩; have X2 := Lib.hid (X1.out.later hb2); clear hb2))
                            go_meet
                            case rel => exact ⟨val_bool HT.out, X2.out⟩
                        · have e1 : decide (a5 ≤ 2) = false := by simpa using h1
                          have HT : Hid (false = clAt l 5) := Lib.hid (by rw [HC5.out]; simp [clB, h1])
                          clear h1
                          go_wp2_with (go_at_call 30; (fail_if_success (have := X1)); refine (VA5.out _ I5.out.below).mono ?_; rintro e w1 ⟨rfl, hb1⟩; have X1 := Lib.hid (RX.out.later hb1); clear hb1)
                          go_meet
                          case rel => exact ⟨val_bool HT.out, X1.out⟩
                      case rest =>
                        obtain ⟨rfl, hJ⟩ := hcut
                        have J5 := Lib.hid hJ
                        have HL5 : Hid ((clTo l 5).length ≤ 7) := Lib.hid (by have := clTo_len l 5; omega)
                        obtain ⟨r5, hr⟩ : ∃ r, clAt l 5 = r := ⟨_, rfl⟩
                        have HR5 := Lib.hid hr
                        rw [hr]
                        clear hJ hr
                        go_upto_if 71 with fail
                        go_cut [3] from 4 (fun sv wx => RcI w wx l 6 sv)
                        case first =>
                          cases r5
                          · go_wp2_with fail
                            go_meet
                            case rel => exact J5.out.no HR5.out
                          · go_wp2_with (at_builtin; refine wpList_append_own_at _ rfl _ _ 35 rfl w.heap.size 38 i0 (.agg #[.int .i64 0, .int .i64 0]) 2 16 under35 hi hz0 hz1 hz2 rfl (by decide) _ _ _ rfl (J5.out.own.alloc _) ⟨wc.heap.size, 0, none⟩ 1 1 [.int .i64 9, .int .i64 11] rfl rfl (cell_pair_new (heap_alloc_new _ _)) (by simp [Value.oneCell']) (by have := HL5.out; unfold maxLen; omega) (by have := HL5.out; omega) (by have := J5.out.below.size; simp; omega) ?_; intro v' w6 hown' hgrow _ _; have HI6 := Lib.hid (RcI.grown (J5.out.later ((Below.refl _ _).alloc (Nat.le_refl _) _)) hgrow hown' rfl HR5.out); clear hown' hgrow)
                            go_meet
                            case rel => exact HI6.out
                        case rest =>
                          have I6 := Lib.hid hcut
                          clear hcut
                          obtain ⟨a6, ha⟩ : ∃ a, valOf l 10 = a := ⟨_, rfl⟩
                          obtain ⟨b6, hb⟩ : ∃ b, valOf l 13 = b := ⟨_, rfl⟩
                          have VA6 := Lib.hid fun wx hx => VV.out 10 wx hx
                          have VB6 := Lib.hid fun wx hx => VV.out 13 wx hx
                          rw [ha] at VA6
                          rw [hb] at VB6
                          have HC6 : Hid (clAt l 6 = clB 6 a6 b6) := Lib.hid (by rw [← ha, ← hb]; rfl)
                          clear ha hb
                          go_upto_region 14 with fail
                          go_cut [83] from 4 (fun s wx => s = .bool (clAt l 6) ∧ RcI w wx l 6 u3)
                          case first =>
                            have RX : Hid (RcI w wc l 6 u3) := Lib.hid I6.out
                            by_cases h1 : a6 = 0
                            · have e1 : (a6 == 0) = true := by simpa using h1
                              by_cases h2 : b6 = 4
                              · have e2 : (b6 == 4) = true := by simpa using h2
                                have HT : Hid (true = clAt l 6) := Lib.hid (by rw [HC6.out]; simp [clB, h1, h2])
                                clear h1 h2
                                go_wp2_with (first | (go_at_call 30; (fail_if_success (have := X1)); refine (VA6.out _ I6.out.below).mono ?_; rintro e w1 ⟨rfl, hb1⟩; have X1 := Lib.hid (RX.out.later hb1); clear hb1) | (go_at_call 30; refine (VB6.out _ X1.out.below).mono ?_; rintro e w2 ⟨rfl, hb2⟩; have X2 := Lib.hid (X1.out.later hb2); clear hb2))
                                go_meet
                                case rel => exact ⟨val_bool HT.out, X2.out⟩
                              · have e2 : (b6 == 4) = false := by simpa using h2
                                have HT : Hid (false = clAt l 6) := Lib.hid (by rw [HC6.out]; simp [clB, h2])
                                clear h1 h2
                                go_wp2_with (first | (go_at_call 30; (fail_if_success (have := X1)); refine (VA6.out _ I6.out.below).mono ?_; rintro e w1 ⟨rfl, hb1⟩; have X1 := Lib.hid (RX.out.later hb1); clear hb1) | (go_at_call 30; refine (VB6.out _ X1.out.below).mono ?_; rintro e w2 ⟨rfl, hb2⟩; have X2 := Lib.hid (X1.out.later hb2); clear hb2))
                                go_meet
                                case rel => exact ⟨val_bool HT.out, X2.out⟩
                            · have e1 : (a6 == 0) = false := by simpa using h1
                              have HT : Hid (false = clAt l 6) := Lib.hid (by rw [HC6.out]; simp [clB, h1])
                              clear h1
                              go_wp2_with (go_at_call 30; (fail_if_success (have := X1)); refine (VA6.out _ I6.out.below).mono ?_; rintro e w1 ⟨rfl, hb1⟩; have X1 := Lib.hid (RX.out.later hb1); clear hb1)
                              go_meet
                              case rel => exact ⟨val_bool HT.out, X1.out⟩
                          case rest =>
                            obtain ⟨rfl, hJ⟩ := hcut
                            have J6 := Lib.hid hJ
                            have HL6 : Hid ((clTo l 6).length ≤ 7) := Lib.hid (by have := clTo_len l 6; omega)
                            obtain ⟨r6, hr⟩ : ∃ r, clAt l 6 = r := ⟨_, rfl⟩
                            have HR6 := Lib.hid hr
                            rw [hr]
                            clear hJ hr
                            go_upto_if 83 with fail
                            go_cut [3] from 4 (fun sv wx => RcI w wx l 7 sv)
                            case first =>
                              cases r6
                              · go_wp2_with fail
                                go_meet
                                case rel => exact J6.out.no HR6.out
                              · go_wp2_with (at_builtin; refine wpList_append_own_at _ rfl _ _ 35 rfl w.heap.size 38 i0 (.agg #[.int .i64 0, .int .i64 0]) 2 16 under35 hi hz0 hz1 hz2 rfl (by decide) _ _ _ rfl (J6.out.own.alloc _) ⟨wc.heap.size, 0, none⟩ 1 1 [.int .i64 10, .int .i64 13] rfl rfl (cell_pair_new (heap_alloc_new _ _)) (by simp [Value.oneCell']) (by have := HL6.out; unfold maxLen; omega) (by have := HL6.out; omega) (by have := J6.out.below.size; simp; omega) ?_; intro v' w6 hown' hgrow _ _; have HI6 := Lib.hid (RcI.grown (J6.out.later ((Below.refl _ _).alloc (Nat.le_refl _) _)) hgrow hown' rfl HR6.out); clear hown' hgrow)
                                go_meet
                                case rel => exact HI6.out
                            case rest =>
                              have I7 := Lib.hid hcut
                              clear hcut
                              go_wp2_with fail
                              go_ret
                              exact ⟨_, rfl, I7.out⟩

end Go.Proofs.YtpncdcncfinohaaDoor
