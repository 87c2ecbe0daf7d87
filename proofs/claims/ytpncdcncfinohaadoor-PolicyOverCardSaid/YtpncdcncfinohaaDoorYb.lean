/- The contract of the reference's Agree where it takes the policies on. -/
import Derived.Test.YtpncdcncfinohaaDoorY
namespace Go.Proofs.YtpncdcncfinohaaDoor
open Go.RowKit Go.Sort Go.BigFrame

theorem val_int {a b : Int} (h : a = b) : Value.int .i64 a = Value.int .i64 b := by rw [h]

/-- Six policies in a block of their own. -/
def sixO (a b c d e f : Int) : Obj := .cells #[.int .i64 8, .int .i64 a, .int .i64 9, .int .i64 b, .int .i64 10, .int .i64 c, .int .i64 11, .int .i64 d, .int .i64 12, .int .i64 e, .int .i64 13, .int .i64 f] 46
theorem six_row {W : World} {g : Nat} {a b c d e f : Int} (h : W.heap[g]? = some (sixO a b c d e f)) : RowAt W (some ⟨g, 0, none⟩) [⟨8, a⟩, ⟨9, b⟩, ⟨10, c⟩, ⟨11, d⟩, ⟨12, e⟩, ⟨13, f⟩] := by
  refine .inr ⟨g, 0, rfl, (Array.getElem?_eq_some_iff.1 h).1, fun i hi => ?_⟩
  simp only [List.length_cons, List.length_nil] at hi
  have hh : i = 0 ∨ i = 1 ∨ i = 2 ∨ i = 3 ∨ i = 4 ∨ i = 5 := by omega
  rcases hh with rfl | rfl | rfl | rfl | rfl | rfl <;> simp [World.cell?, h, sixO]

/-- Does the client's limit give way to the server's? -/
def givesB (a b : Int) : Bool := decide (a = 0) || (decide (b ≠ 0) && decide (b < a))

/-- How the reference's Agree ends, off the pairs that clash. -/
def RagEnd (w : World) (K : List PolD) (L : List (Int × Int)) (e : Ending) (w' : World) : Prop :=
  (L = [] ∧ ∃ sv base, e = .returned (.tuple #[sv, .int .i64 0, .int .i64 0]) ∧ w'.ownsRow base 46 2 sv K.length (polCells K) ∧ Below w.heap.size w w') ∨
  (∃ p rest, L = p :: rest ∧ e = .returned (.tuple #[.slice none 0 0, .int .i64 p.1, .int .i64 9]) ∧ Below w.heap.size w w')

set_option maxRecDepth 100000 in
set_option maxHeartbeats 4000000 in
theorem ragree_set (ao1 ao2 : Option Addr) (cap1 cap2 : Nat) (c s : List PolD) (w : World) (hS : SortsAt w) (h1 : RowAt w ao1 c) (h2 : RowAt w ao2 s) (hl1 : c.length ≤ 1000000) (hl2 : s.length ≤ 1000000) (k1 : okS c = true) (k2 : okS s = true) (k3 : ¬ valOf s 11 < valOf c 11) :
    Calls Tryd.prog 18 #[.slice ao1 c.length cap1, .slice ao2 s.length cap2] w (RagEnd w (keptTo (agL c s 6) 6) (clTo (agL c s 6) 7)) := by
  have VC := Lib.hid (rvalidSet_any ao1 cap1 c w hS h1 (by omega))
  have VS := Lib.hid fun wx (hx : Below w.heap.size w wx) => rvalidSet_any ao2 cap2 s wx (hS.below hx hS.pos) (h2.below hx) (by omega)
  rw [k1] at VC
  rw [k2] at VS
  have PC := Lib.hid fun wx (hx : Below w.heap.size w wx) => part_row ao1 cap1 c wx (h1.below hx) hl1
  have PS := Lib.hid fun wx (hx : Below w.heap.size w wx) => part_row ao2 cap2 s wx (h2.below hx) hl2
  obtain ⟨C, hC⟩ : ∃ C, partTo 8 13 c c.length = C := ⟨_, rfl⟩
  obtain ⟨S, hSS⟩ : ∃ S, partTo 8 13 s s.length = S := ⟨_, rfl⟩
  have VCQ := fun q hq ao cap wx h => value_part hC hl1 ao cap q wx h hq
  have VSQ := fun q hq ao cap wx h => value_part hSS hl2 ao cap q wx h hq
  have HSQ := Lib.hid fun ao cap wx h => has_part hSS hl2 ao cap 12 wx h (by decide)
  rw [hC] at PC
  rw [hSS] at PS
  have C8 := Lib.hid fun ao cap wx h => VCQ 8 (by decide) ao cap wx h
  have C9 := Lib.hid fun ao cap wx h => VCQ 9 (by decide) ao cap wx h
  have C10 := Lib.hid fun ao cap wx h => VCQ 10 (by decide) ao cap wx h
  have C11 := Lib.hid fun ao cap wx h => VCQ 11 (by decide) ao cap wx h
  have C12 := Lib.hid fun ao cap wx h => VCQ 12 (by decide) ao cap wx h
  have C13 := Lib.hid fun ao cap wx h => VCQ 13 (by decide) ao cap wx h
  have S8 := Lib.hid fun ao cap wx h => VSQ 8 (by decide) ao cap wx h
  have S9 := Lib.hid fun ao cap wx h => VSQ 9 (by decide) ao cap wx h
  have S10 := Lib.hid fun ao cap wx h => VSQ 10 (by decide) ao cap wx h
  have S11 := Lib.hid fun ao cap wx h => VSQ 11 (by decide) ao cap wx h
  have S12 := Lib.hid fun ao cap wx h => VSQ 12 (by decide) ao cap wx h
  have S13 := Lib.hid fun ao cap wx h => VSQ 13 (by decide) ao cap wx h
  clear VCQ VSQ
  have Q11 : Hid (1 ≤ valOf (agL c s 6) 11) := Lib.hid (by rw [agL_valOf c s 11 (by decide) (by decide)]; exact (agreed_bd k1 k2 11).1)
  have N9 : Hid ((1 ≤ valOf c 9 ∧ valOf c 9 ≤ 4) ∧ (1 ≤ valOf s 9 ∧ valOf s 9 ≤ 4)) := Lib.hid ⟨valOf_bd k1 9, valOf_bd k2 9⟩
  have E8 : Hid (strongV (rS 8 (valOf c 8)) (rS 8 (valOf s 8)) (valOf c 8) (valOf s 8) = agreedV c s 8) := Lib.hid (by simp [agreedV, rS_eight])
  have E9 : Hid (strongV (rS 9 (valOf c 9)) (rS 9 (valOf s 9)) (valOf c 9) (valOf s 9) = agreedV c s 9) := Lib.hid (by
    have e : agreedV c s 9 = strongV (cS (valOf c 9)) (cS (valOf s 9)) (valOf c 9) (valOf s 9) := by simp [agreedV]
    rw [e, rS_nine N9.out.1.1 N9.out.1.2, rS_nine N9.out.2.1 N9.out.2.2]
    unfold strongV
    by_cases h : cS (valOf c 9) < cS (valOf s 9)
    · rw [if_pos h, if_pos (by omega)]
    · rw [if_neg h, if_neg (by omega)])
  have E11 : Hid (valOf c 11 = agreedV c s 11) := Lib.hid (by simp [agreedV])
  have E10 : Hid ((givesB (valOf c 10) (valOf s 10) = true → valOf s 10 = agreedV c s 10) ∧ (givesB (valOf c 10) (valOf s 10) = false → valOf c 10 = agreedV c s 10)) := Lib.hid (by
    have e : agreedV c s 10 = (if valOf c 10 = 0 ∨ (¬ valOf s 10 = 0 ∧ valOf s 10 < valOf c 10) then valOf s 10 else valOf c 10) := by simp [agreedV]
    rw [e]
    constructor
    · intro h
      rw [if_pos (by simpa [givesB] using h)]
    · intro h
      rw [if_neg (by intro h2; have : givesB (valOf c 10) (valOf s 10) = true := (by simpa [givesB] using h2); rw [h] at this; cases this)])
  have E12 : Hid ((hasOf s 12 = true → min (valOf c 12) (valOf s 12) = agreedV c s 12) ∧ (hasOf s 12 = false → valOf c 12 = agreedV c s 12)) := Lib.hid (by
    constructor <;> (intro h; simp [agreedV, h]))
  have E13 : Hid ((valOf c 13 = 1 → valOf s 13 = agreedV c s 13) ∧ (¬ valOf c 13 = 1 → valOf c 13 = agreedV c s 13)) := Lib.hid (by
    constructor <;> (intro h; simp [agreedV, h]))
  have HL6 := Lib.hid (agL_six c s)
  obtain ⟨L, hL⟩ : ∃ L, agL c s 6 = L := ⟨_, rfl⟩
  have HLL := Lib.hid hL
  rw [hL] at HL6 Q11
  rw [hL]
  obtain ⟨a8, ha8⟩ : ∃ a, valOf c 8 = a := ⟨_, rfl⟩
  obtain ⟨a9, ha9⟩ : ∃ a, valOf c 9 = a := ⟨_, rfl⟩
  obtain ⟨a10, ha10⟩ : ∃ a, valOf c 10 = a := ⟨_, rfl⟩
  obtain ⟨a11, ha11⟩ : ∃ a, valOf c 11 = a := ⟨_, rfl⟩
  obtain ⟨a12, ha12⟩ : ∃ a, valOf c 12 = a := ⟨_, rfl⟩
  obtain ⟨a13, ha13⟩ : ∃ a, valOf c 13 = a := ⟨_, rfl⟩
  obtain ⟨b8, hb8⟩ : ∃ a, valOf s 8 = a := ⟨_, rfl⟩
  obtain ⟨b9, hb9⟩ : ∃ a, valOf s 9 = a := ⟨_, rfl⟩
  obtain ⟨b10, hb10⟩ : ∃ a, valOf s 10 = a := ⟨_, rfl⟩
  obtain ⟨b11, hb11⟩ : ∃ a, valOf s 11 = a := ⟨_, rfl⟩
  obtain ⟨b12, hb12⟩ : ∃ a, valOf s 12 = a := ⟨_, rfl⟩
  obtain ⟨b13, hb13⟩ : ∃ a, valOf s 13 = a := ⟨_, rfl⟩
  obtain ⟨p12, hp12⟩ : ∃ a, hasOf s 12 = a := ⟨_, rfl⟩
  obtain ⟨v8, hv8⟩ : ∃ a, agreedV c s 8 = a := ⟨_, rfl⟩
  obtain ⟨v9, hv9⟩ : ∃ a, agreedV c s 9 = a := ⟨_, rfl⟩
  obtain ⟨v10, hv10⟩ : ∃ a, agreedV c s 10 = a := ⟨_, rfl⟩
  obtain ⟨v11, hv11⟩ : ∃ a, agreedV c s 11 = a := ⟨_, rfl⟩
  obtain ⟨v12, hv12⟩ : ∃ a, agreedV c s 12 = a := ⟨_, rfl⟩
  obtain ⟨v13, hv13⟩ : ∃ a, agreedV c s 13 = a := ⟨_, rfl⟩
  rw [ha8] at C8 E8
  rw [ha9] at C9 E9
  rw [ha10] at C10 E10
  rw [ha11] at C11 E11 k3
  rw [ha12] at C12 E12
  rw [ha13] at C13 E13
  rw [hb8] at S8 E8
  rw [hb9] at S9 E9
  rw [hb10] at S10 E10
  rw [hb11] at S11 k3
  rw [hb12] at S12 E12
  rw [hb13] at S13 E13
  rw [hp12] at HSQ E12
  rw [hv8] at E8 HL6
  rw [hv9] at E9 HL6
  rw [hv10] at E10 HL6
  rw [hv11] at E11 HL6
  rw [hv12] at E12 HL6
  rw [hv13] at E13 HL6
  have e1 : decide (b11 < a11) = false := by simpa using k3
  have U8 := Lib.hid fun wx => rstronger_any 8 a8 b8 wx
  have U9 := Lib.hid fun wx => rstronger_any 9 a9 b9 wx
  rw [E8.out] at U8
  rw [E9.out] at U9
  rw [E11.out] at C11 e1
  clear hS h1 hl1 k1 h2 hl2 k2 k3 ha8 ha9 ha10 ha11 ha12 ha13 hb8 hb9 hb10 hb11 hb12 hb13 hp12 hv8 hv9 hv10 hv11 hv12 hv13 hC hSS hL N9 E8 E9 E11
  go_enter Tryd.func18, Tryd.ntmps18
  go_upto_region 5 with (first | (go_at_call 21; (fail_if_success (have := B1)); refine VC.out.mono ?_; rintro e w1 ⟨rfl, hb1⟩; have B1 := Lib.hid hb1; clear hb1) | (go_at_call 21; refine (VS.out _ B1.out).mono ?_; rintro e w2 ⟨rfl, hb2⟩; have B2 := Lib.hid (B1.out.trans (hb2.mono B1.out.size)); clear hb2) | (go_at_call 36; (fail_if_success (have := B3)); refine (PC.out _ B2.out).mono ?_; rintro e w3 ⟨ao3, cap3, rfl, hr3, hb3⟩; have R3 := Lib.hid hr3; have B3 := Lib.hid (B2.out.trans (hb3.mono B2.out.size)); clear hb3 hr3) | (go_at_call 36; refine (PS.out _ B3.out).mono ?_; rintro e w4 ⟨ao4, cap4, rfl, hr4, hb4⟩; have T4 : Hid (TwoR w w4 ao3 C ao4 S) := Lib.hid ⟨B3.out.trans (hb4.mono B3.out.size), R3.out.below hb4, hr4⟩; clear hb4 hr4) | (go_at_call 30; refine (C11.out _ _ _ T4.out.r1).mono ?_; rintro e w5 ⟨rfl, hb5⟩; have T5 := Lib.hid (T4.out.later hb5); clear hb5))
  go_upto_region 9 with (first | (go_at_call 30; (fail_if_success (have := T6)); refine (S11.out _ _ _ T5.out.r2).mono ?_; rintro e w6 ⟨rfl, hb6⟩; have T6 := Lib.hid (T5.out.later hb6); clear hb6) | (go_at_call 30; (fail_if_success (have := T7)); refine (C10.out _ _ _ T6.out.r1).mono ?_; rintro e w7 ⟨rfl, hb7⟩; have T7 := Lib.hid (T6.out.later hb7); clear hb7) | (go_at_call 30; refine (S10.out _ _ _ T7.out.r2).mono ?_; rintro e w8 ⟨rfl, hb8⟩; have T8 := Lib.hid (T7.out.later hb8); clear hb8))
  go_cut [48] from 16 (fun t wx => t = .bool (givesB a10 b10) ∧ w8 = wx)
  case first =>
    by_cases g1 : a10 = 0
    · have f1 : (a10 == 0) = true := by simpa using g1
      have HT : Hid (true = givesB a10 b10) := Lib.hid (by simp [givesB, g1])
      clear g1
      go_wp2_with fail
      go_meet
      case rel => exact ⟨val_bool HT.out, rfl⟩
    · have f1 : (a10 == 0) = false := by simpa using g1
      by_cases g2 : b10 = 0
      · have f2 : (b10 != 0) = false := by simpa using g2
        have HT : Hid (false = givesB a10 b10) := Lib.hid (by simp [givesB, g1, g2])
        clear g1 g2
        go_wp2_with fail
        go_meet
        case rel => exact ⟨val_bool HT.out, rfl⟩
      · have f2 : (b10 != 0) = true := by simpa using g2
        have HT : Hid (decide (b10 < a10) = givesB a10 b10) := Lib.hid (by simp [givesB, g1, g2])
        clear g1 g2
        go_wp2_with fail
        go_meet
        case rel => exact ⟨val_bool HT.out, rfl⟩
  case rest =>
    obtain ⟨rfl, rfl⟩ := hcut
    obtain ⟨gb, hgb⟩ : ∃ gb, givesB a10 b10 = gb := ⟨_, rfl⟩
    rw [hgb] at E10
    rw [hgb]
    clear hgb
    go_upto_if 48 with fail
    go_cut [10] from 16 (fun t wx => t = .int .i64 v10 ∧ w8 = wx)
    case first =>
      cases gb
      · have HT : Hid (a10 = v10) := Lib.hid (E10.out.2 rfl)
        clear E10
        go_wp2_with fail
        go_meet
        case rel => exact ⟨val_int HT.out, rfl⟩
      · have HT : Hid (b10 = v10) := Lib.hid (E10.out.1 rfl)
        clear E10
        go_wp2_with fail
        go_meet
        case rel => exact ⟨val_int HT.out, rfl⟩
    case rest =>
      obtain ⟨rfl, rfl⟩ := hcut
      go_upto_region 12 with (go_at_call 30; refine (C12.out _ _ _ T8.out.r1).mono ?_; rintro e w9 ⟨rfl, hb9⟩; have T9 := Lib.hid (T8.out.later hb9); clear hb9)
      go_upto_if 53 with (go_at_call 37; refine (HSQ.out _ _ _ T9.out.r2).mono ?_; rintro e w10 ⟨rfl, hb10⟩; have T10 := Lib.hid (T9.out.later hb10); clear hb10)
      go_cut [12] from 16 (fun t wx => t = .int .i64 v12 ∧ TwoR w wx ao3 C ao4 S)
      case first =>
        cases p12
        · have HT : Hid (a12 = v12) := Lib.hid (E12.out.2 rfl)
          clear E12
          go_wp2_with fail
          go_meet
          case rel => exact ⟨val_int HT.out, T10.out⟩
        · have HT : Hid (min a12 b12 = v12) := Lib.hid (E12.out.1 rfl)
          clear E12
          go_wp2_with (go_at_call 30; refine (S12.out _ _ _ T10.out.r2).mono ?_; rintro e w11 ⟨rfl, hb11⟩; have T11 := Lib.hid (T10.out.later hb11); clear hb11)
          · go_meet
            case rel => exact ⟨val_int ((show b12 = min a12 b12 by omega).trans HT.out), T11.out⟩
          · go_meet
            case rel => exact ⟨val_int ((show a12 = min a12 b12 by omega).trans HT.out), T11.out⟩
      case rest =>
        obtain ⟨rfl, hT⟩ := hcut
        have TA := Lib.hid hT
        clear hT
        go_upto_if 61 with (go_at_call 30; refine (C13.out _ _ _ TA.out.r1).mono ?_; rintro e w12 ⟨rfl, hb12⟩; have T12 := Lib.hid (TA.out.later hb12); clear hb12)
        go_cut [13] from 16 (fun t wx => t = .int .i64 v13 ∧ TwoR w wx ao3 C ao4 S)
        case first =>
          by_cases g1 : a13 = 1
          · have f1 : (a13 == 1) = true := by simpa using g1
            have HT : Hid (b13 = v13) := Lib.hid (E13.out.1 g1)
            clear g1 E13
            go_wp2_with (go_at_call 30; refine (S13.out _ _ _ T12.out.r2).mono ?_; rintro e w13 ⟨rfl, hb13⟩; have T13 := Lib.hid (T12.out.later hb13); clear hb13)
            go_meet
            case rel => exact ⟨val_int HT.out, T13.out⟩
          · have f1 : (a13 == 1) = false := by simpa using g1
            have HT : Hid (a13 = v13) := Lib.hid (E13.out.2 g1)
            clear g1 E13
            go_wp2_with fail
            go_meet
            case rel => exact ⟨val_int HT.out, T12.out⟩
        case rest =>
          obtain ⟨rfl, hT⟩ := hcut
          have TB := Lib.hid hT
          clear hT
          go_upto_region 18 with (first | (go_at_call 30; (fail_if_success (have := T14)); refine (C8.out _ _ _ TB.out.r1).mono ?_; rintro e w14 ⟨rfl, hb14⟩; have T14 := Lib.hid (TB.out.later hb14); clear hb14) | (go_at_call 30; (fail_if_success (have := T15)); refine (S8.out _ _ _ T14.out.r2).mono ?_; rintro e w15 ⟨rfl, hb15⟩; have T15 := Lib.hid (T14.out.later hb15); clear hb15) | (go_at_call 38; (fail_if_success (have := T16)); refine (U8.out _).mono ?_; rintro e w16 ⟨rfl, rfl⟩) | (go_at_call 30; (fail_if_success (have := T16)); refine (C9.out _ _ _ T15.out.r1).mono ?_; rintro e w16 ⟨rfl, hb16⟩; have T16 := Lib.hid (T15.out.later hb16); clear hb16) | (go_at_call 30; refine (S9.out _ _ _ T16.out.r2).mono ?_; rintro e w17 ⟨rfl, hb17⟩; have T17 := Lib.hid (T16.out.later hb17); clear hb17) | (go_at_call 38; refine (U9.out _).mono ?_; rintro e w18 ⟨rfl, rfl⟩))
          have hl6 : L.length = 6 := by rw [HL6.out]; rfl
          obtain ⟨wN, hwN⟩ : ∃ wN, w17.alloc (sixO v8 v9 v10 v11 v12 v13) = wN := ⟨_, rfl⟩
          have BN := Lib.hid (hwN ▸ T17.out.below.alloc T17.out.below.size (sixO v8 v9 v10 v11 v12 v13))
          have RL : RowAt wN (some ⟨w17.heap.size, 0, none⟩) L := by rw [HL6.out, ← hwN]; exact six_row (heap_alloc_new _ _)
          have kN : Calls Tryd.prog 34 #[.slice (some ⟨w17.heap.size, 0, none⟩) 6 6] wN fun e w' => ∃ ao cap, e = .returned (.slice ao (clTo L 7).length cap) ∧ PairAt w' ao (clTo L 7) ∧ Below wN.heap.size wN w' := by
            have hh := rclashes_any (some ⟨w17.heap.size, 0, none⟩) 6 L wN RL (by omega) Q11.out
            rw [hl6] at hh
            exact hh.mono fun e w' ⟨sv, he, hi⟩ => by
              obtain ⟨ao, cap, rfl, hp⟩ := pair_of_own hi.own
              exact ⟨ao, cap, he, hp, hi.below⟩
          have kP : ∀ wx, Below wN.heap.size wN wx → Calls Tryd.prog 39 #[.slice (some ⟨w17.heap.size, 0, none⟩) 6 6] wx fun e w' => ∃ sv, e = .returned sv ∧ w'.ownsRow wx.heap.size 46 2 sv (keptTo L 6).length (polCells (keptTo L 6)) ∧ Below wx.heap.size wx w' := by
            intro wx hx
            have hh := rplain_any (some ⟨w17.heap.size, 0, none⟩) 6 L wx (RL.below hx) (by omega)
            rw [hl6] at hh
            exact hh.mono fun e w' ⟨sv, he, hi⟩ => ⟨sv, he, hi.own, hi.below⟩
          have KN := Lib.hid kN
          have KP := Lib.hid kP
          rw [show w17.alloc (Obj.cells #[Value.int IntKind.i64 8, Value.int IntKind.i64 v8, Value.int IntKind.i64 9, Value.int IntKind.i64 v9, Value.int IntKind.i64 10, Value.int IntKind.i64 v10, Value.int IntKind.i64 11, Value.int IntKind.i64 v11, Value.int IntKind.i64 12, Value.int IntKind.i64 v12, Value.int IntKind.i64 13, Value.int IntKind.i64 v13] 46) = wN from hwN]
          obtain ⟨M, hM⟩ : ∃ M, clTo L 7 = M := ⟨_, rfl⟩
          obtain ⟨K, hK⟩ : ∃ K, keptTo L 6 = K := ⟨_, rfl⟩
          rw [hM] at KN
          rw [hK] at KP
          have HM := Lib.hid hM
          have HK := Lib.hid hK
          clear kN kP hM hK hl6 RL hwN
          cases M with
          | nil =>
            go_wp2_with (first | (go_at_call 34; refine KN.out.mono ?_; rintro e w18 ⟨ao5, cap5, rfl, hp18, hb18⟩; have B18 := Lib.hid hb18; clear hp18 hb18) | (go_at_call 39; refine (KP.out _ B18.out).mono ?_; rintro e w19 ⟨sv, rfl, ho19, hb19⟩; have O19 := Lib.hid ho19; have B19 := Lib.hid (B18.out.trans (hb19.mono B18.out.size)); clear ho19 hb19))
            go_ret3
            exact .inl ⟨HM.out, sv, _, rfl, by rw [HK.out]; exact O19.out, BN.out.trans (B19.out.mono BN.out.size)⟩
          | cons p rest =>
            go_upto_if 89 with (go_at_call 34; refine KN.out.mono ?_; rintro e w18 ⟨ao5, cap5, rfl, hp18, hb18⟩; have P18 := Lib.hid hp18; have B18 := Lib.hid hb18; clear hp18 hb18)
            rcases P18.out with h0 | ⟨g8, off8, rfl, hlt8, hp8⟩
            · cases h0
            · obtain ⟨p0, p1⟩ := hp8 0 (by simp)
              simp only [List.getElem_cons_zero, Nat.zero_mul, Nat.add_zero] at p0 p1
              obtain ⟨x, hx⟩ : ∃ x, p.1 = x := ⟨_, rfl⟩
              obtain ⟨y, hy⟩ : ∃ y, p.2 = y := ⟨_, rfl⟩
              rw [hx] at p0
              rw [hy] at p1
              have HX := Lib.hid hx
              have hr0 : (0 : Int) < (rest.length : Int) + 1 := by omega
              clear hx hy hp8
              go_wp2_with fail
              go_quiet (fail)
              go_wp2_with fail
              go_ret3
              refine .inr ⟨p, rest, HM.out, by rw [HX.out]; rfl, ?_⟩
              have bb := BN.out.trans (B18.out.mono BN.out.size)
              exact bb.trans ((below_drewN' _ _).mono bb.size)

/-- The reference's Agree, for all rows. -/
theorem ragree_all (ao1 ao2 : Option Addr) (cap1 cap2 : Nat) (c s : List PolD) (w : World) (hS : SortsAt w) (h1 : RowAt w ao1 c) (h2 : RowAt w ao2 s) (hl1 : c.length ≤ 1000000) (hl2 : s.length ≤ 1000000) :
    Calls Tryd.prog 18 #[.slice ao1 c.length cap1, .slice ao2 s.length cap2] w (AgreePost w c s) := by
  cases k1 : okS c
  · exact (ragree_bad1 ao1 ao2 cap1 cap2 c s w hS h1 (by omega) k1).mono fun e w' ⟨he, hb⟩ => agreePost_bad (by rw [k1]; intro h; cases h.1) he hb
  · cases k2 : okS s
    · exact (ragree_bad2 ao1 ao2 cap1 cap2 c s w hS h1 h2 (by omega) (by omega) k1 k2).mono fun e w' ⟨he, hb⟩ => agreePost_bad (by rw [k2]; intro h; cases h.2) he hb
    · by_cases k3 : valOf s 11 < valOf c 11
      · exact (ragree_route ao1 ao2 cap1 cap2 c s w hS h1 h2 hl1 hl2 k1 k2 k3).mono fun e w' ⟨he, hb⟩ => agreePost_route k1 k2 k3 he hb
      · refine (ragree_set ao1 ao2 cap1 cap2 c s w hS h1 h2 hl1 hl2 k1 k2 k3).mono fun e w' h => ?_
        rcases h with ⟨hc, sv, base, he, ho, hb⟩ | ⟨p, rest, hc, he, hb⟩
        · exact agreePost_go k1 k2 k3 hc he ho hb
        · exact agreePost_clash k1 k2 k3 hc he hb

end Go.Proofs.YtpncdcncfinohaaDoor
