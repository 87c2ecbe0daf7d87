/- The law PolicyAgrees returns true, whatever the rows. -/
import Derived.Test.YtpncdcncfinohaaDoorYc
import Derived.ChangeKeysEq
namespace Go.Proofs.YtpncdcncfinohaaDoor
open Go.RowKit Go.Sort Go.BigFrame

/-- Two slices in a block of their own. -/
def twoO (a b : Value) : Obj := .cells #[a, b] 22
theorem two_at {W : World} {g : Nat} {a b : Value} (h : W.heap[g]? = some (twoO a b)) : W.cell? ⟨g, 0, none⟩ = some a ∧ W.cell? ⟨g, 1, none⟩ = some b := by simp [World.cell?, h, twoO]

theorem short_new (a1 a2 : Option Addr) (n1 n2 c1 c2 : Nat) (w : World) :
    Calls Tryd.prog 5 #[.slice (some ⟨w.heap.size, 0, none⟩) 2 2] (w.alloc (twoO (.slice a1 n1 c1) (.slice a2 n2 c2))) fun e w' => e = .returned (.bool (decide (n1 ≤ 200) && decide (n2 ≤ 200))) ∧ w.alloc (twoO (.slice a1 n1 c1) (.slice a2 n2 c2)) = w' :=
  short_two w.heap.size 2 a1 a2 n1 n2 c1 c2 _ (two_at (heap_alloc_new _ _)).1 (two_at (heap_alloc_new _ _)).2

set_option maxRecDepth 100000 in
set_option maxHeartbeats 1000000 in
theorem law_long (a1 a2 : Option Addr) (n1 n2 c1 c2 : Nat) (w : World) (hS : SortsAt w) (h : ¬ (n1 ≤ 200 ∧ n2 ≤ 200)) :
    Calls Tryd.prog 4 #[.slice a1 n1 c1, .slice a2 n2 c2] w fun e w' => e = .returned (.bool true) ∧ Below w.heap.size w w' := by
  have hb : Below w.heap.size w (w.alloc (twoO (.slice a1 n1 c1) (.slice a2 n2 c2))) := (Below.refl _ _).alloc (Nat.le_refl _) _
  have HB := Lib.hid hb
  have SH := Lib.hid (short_new a1 a2 n1 n2 c1 c2 w)
  rw [show (decide (n1 ≤ 200) && decide (n2 ≤ 200)) = false by simpa using h] at SH
  have AW := Lib.hid (awake_any _ (hS.below hb hS.pos))
  clear hS h hb
  go_enter Tryd.func4, Tryd.ntmps4
  go_wp2_with (first | (go_at_call 5; refine SH.out.mono ?_; rintro e w1 ⟨rfl, rfl⟩) | (go_at_call 6; refine AW.out.mono ?_; rintro e w2 ⟨rfl, hb2⟩; have B2 := Lib.hid hb2; clear hb2))
  go_ret
  exact ⟨rfl, HB.out.trans (B2.out.mono HB.out.size)⟩

theorem agE_zero {c s : List PolD} (h : agE c s = 0) : agC c s = 3 := by
  unfold agE at h
  split at h
  · omega
  · split at h
    · assumption
    · omega
theorem agC_three {c s : List PolD} (h : agC c s = 3) : okS c = true ∧ okS s = true ∧ clTo (agL c s 6) 7 = [] ∧ agS c s = keptTo (agL c s 6) 6 := by
  have h0 := h
  unfold agC at h
  split at h
  · rename_i hk
    split at h
    · omega
    · split at h
      · rename_i hc
        exact ⟨hk.1, hk.2, hc, by unfold agS; rw [if_pos h0]⟩
      · omega
  · omega

theorem get_kept {c s : List PolD} (h : agC c s = 3) (ao : Option Addr) (cap : Nat) (q : Int) (w : World) (hS : SortsAt w) (hr : RowAt w ao (agS c s)) (h1 : 8 ≤ q) (h2 : q ≤ 13) :
    Calls Tryd.prog 19 #[.slice ao (agS c s).length cap, .int .i64 q] w fun e w' => e = .returned (.tuple #[.int .i64 (agreedV c s q), .int .i64 0]) ∧ Below w.heap.size w w' := by
  obtain ⟨k1, k2, hc, hs⟩ := agC_three h
  have hl : (agS c s).length ≤ 6 := by rw [hs]; exact keptTo_len _ _
  have hv : valOf (agS c s) q = agreedV c s q := by rw [hs, kept_valOf, agL_valOf c s q h1 h2]
  rw [← hv]
  exact getSet_any ao cap _ q w hS hr (by omega) (by rw [hs]; exact kept_okS k1 k2) (by simp [isK]; omega)
theorem clash_kept {c s : List PolD} (h : agC c s = 3) (ao : Option Addr) (cap : Nat) (w : World) (hS : SortsAt w) (hr : RowAt w ao (agS c s)) :
    Calls Tryd.prog 15 #[.slice ao (agS c s).length cap] w fun e w' => ∃ ao' cap', e = .returned (.tuple #[.slice ao' 0 cap', .int .i64 0]) ∧ Below w.heap.size w w' := by
  obtain ⟨k1, k2, hc, hs⟩ := agC_three h
  have hl : (agS c s).length ≤ 6 := by rw [hs]; exact keptTo_len _ _
  have hok : okS (agS c s) = true := by rw [hs]; exact kept_okS k1 k2
  have h1 : clL (agS c s) = [] := by unfold clL; rw [if_pos hok, hs, clTo_kept]; exact hc
  have h2 : erS (agS c s) = 0 := by unfold erS; rw [if_pos hok]
  refine (clashes_all ao cap _ w hS hr (by omega)).mono fun e w' hh => ?_
  obtain ⟨ao', cap', he, _, hb⟩ := hh
  rw [h1, h2] at he
  exact ⟨ao', cap', he, hb⟩
theorem agS_len (c s : List PolD) : (agS c s).length ≤ 6 := by
  unfold agS
  split
  · exact keptTo_len _ _
  · simp

/-- Two integers in a block of their own. -/
def intsO (a b : Int) : Obj := .cells #[.int .i64 a, .int .i64 b] 3
theorem ints_at {W : World} {g : Nat} {a b : Int} (h : W.heap[g]? = some (intsO a b)) : W.cell? ⟨g, 0, none⟩ = some (.int .i64 a) ∧ W.cell? ⟨g, 1, none⟩ = some (.int .i64 b) := by simp [World.cell?, h, intsO]

theorem longer_false {v u : Int} (h : longer v u = false) (h0 : ¬ v = 0) : ¬ u = 0 ∧ ¬ v < u := by
  simp [longer, h0] at h
  omega

theorem Tryd.info3 : (Tryd.prog.info? 3).map (fun i => (i.zero, i.size, i.bytes)) = some (some (.int .i64 0), 1, 8) := by kernel_rfl
theorem under38 : Tryd.prog.underlying 38 = some (.array 2 3) := by kernel_rfl
theorem under3 : Tryd.prog.underlying 3 = some (.int .i64) := by kernel_rfl
theorem eq_int3 (d : Nat) (z : Int) (w : World) : (Op.equalIn (d + 1) 3 (.int .i64 z) (.int .i64 z)).run Tryd.prog w = .ok true w := by
  simp [Op.equalIn, run_underlying under3]
theorem neq_pair (x y : Int) (w : World) : (binOp .neq 38 (.agg #[.int .i64 x, .int .i64 y]) (.agg #[.int .i64 x, .int .i64 y])).run Tryd.prog w = .ok (.bool false) w := by
  obtain ⟨i0, hi, _, _, _⟩ := info_parts Tryd.info3
  have p0 : (part 3 #[.int .i64 x, .int .i64 y] (0 * Tryd.prog.cellsOf 3)).run Tryd.prog w = .ok (.int .i64 x) w := by kernel_rfl
  have p1 : (part 3 #[.int .i64 x, .int .i64 y] (1 * Tryd.prog.cellsOf 3)).run Tryd.prog w = .ok (.int .i64 y) w := by kernel_rfl
  have eqq : ∀ z : Int, (Op.equalIn 9999 3 (.int .i64 z) (.int .i64 z)).run Tryd.prog w = .ok true w := fun z => eq_int3 9998 z w
  rw [run_neq_struct, show (10000 : Nat) = 9999 + 1 from rfl, run_equalIn_array w 9999 _ _ under38 hi]
  simp only [show List.range 2 = [0, 1] from rfl, Op.eqItems, Sem.run_bind, p0, p1, Result.andThen_ok, eqq, Bool.not_true, Bool.false_eq_true, if_false]
  rfl

set_option maxRecDepth 100000 in
set_option maxHeartbeats 8000000 in
theorem law_short (a1 a2 : Option Addr) (c1 c2 : Nat) (c s : List PolD) (w : World) (hS : SortsAt w) (h1 : RowAt w a1 c) (h2 : RowAt w a2 s) (hl1 : c.length ≤ 200) (hl2 : s.length ≤ 200) :
    Calls Tryd.prog 4 #[.slice a1 c.length c1, .slice a2 s.length c2] w fun e w' => e = .returned (.bool true) ∧ Below w.heap.size w w' := by
  have hb : Below w.heap.size w (w.alloc (twoO (.slice a1 c.length c1) (.slice a2 s.length c2))) := (Below.refl _ _).alloc (Nat.le_refl _) _
  have HB := Lib.hid hb
  have SH := Lib.hid (short_new a1 a2 c.length s.length c1 c2 w)
  rw [show (decide (c.length ≤ 200) && decide (s.length ≤ 200)) = true by simp [hl1, hl2]] at SH
  have CL := Lib.hid fun wx (hx : Below w.heap.size w wx) => clashes_all a1 c1 c wx (hS.below hx hS.pos) (h1.below hx) (by omega)
  have RL := Lib.hid fun wx (hx : Below w.heap.size w wx) => rclashes_all a1 c1 c wx (hS.below hx hS.pos) (h1.below hx) (by omega)
  have AG := Lib.hid fun wx (hx : Below w.heap.size w wx) => agree_all a1 a2 c1 c2 c s wx (hS.below hx hS.pos) (h1.below hx) (h2.below hx) (by omega) (by omega)
  have RG := Lib.hid fun wx (hx : Below w.heap.size w wx) => ragree_all a1 a2 c1 c2 c s wx (hS.below hx hS.pos) (h1.below hx) (h2.below hx) (by omega) (by omega)
  have AW := Lib.hid fun wx (hx : Below w.heap.size w wx) => awake_any wx (hS.below hx hS.pos)
  have HS := Lib.hid fun wx (hx : Below w.heap.size w wx) => hS.below hx hS.pos
  have H1 := Lib.hid h1
  have H2 := Lib.hid h2
  have HL1 := Lib.hid hl1
  have HL2 := Lib.hid hl2
  obtain ⟨L, hL⟩ : ∃ L, clL c = L := ⟨_, rfl⟩
  obtain ⟨er, her⟩ : ∃ er, erS c = er := ⟨_, rfl⟩
  obtain ⟨kk, hkk⟩ : ∃ kk, agK c s = kk := ⟨_, rfl⟩
  obtain ⟨ee, hee⟩ : ∃ ee, agE c s = ee := ⟨_, rfl⟩
  have HLn : Hid (L.length ≤ 7) := Lib.hid (by
    rw [← hL]
    unfold clL
    split
    · exact clTo_len _ _
    · simp)
  have HEE := Lib.hid hee
  unfold ClashPost at CL RL
  unfold AgreePost at AG RG
  rw [hL, her] at CL RL
  rw [hkk, hee] at AG RG
  clear hS h1 h2 hl1 hl2 hb hL her hkk hee
  go_enter Tryd.func4, Tryd.ntmps4
  go_wp2_with (go_at_call 5; refine SH.out.mono ?_; rintro e w1 ⟨rfl, rfl⟩)
  refine (CL.out _ HB.out).mono ?_
  rintro e w2 ⟨ao3, cap3, rfl, hp3, hb2⟩
  have P3 := Lib.hid hp3
  have B2 := Lib.hid (HB.out.trans (hb2.mono HB.out.size))
  clear hp3 hb2
  go_wp2_with fail
  refine (RL.out _ B2.out).mono ?_
  rintro e w3 ⟨ao4, cap4, rfl, hp4, hb3⟩
  have P4 := Lib.hid hp4
  have Q4 := Lib.hid (P3.out.below hb3)
  have B3 := Lib.hid (B2.out.trans (hb3.mono B2.out.size))
  clear hp4 hb3
  go_wp2_with fail
  go_loopw [56] (fun i wr => ∃ k : Nat, i = .int .i64 k ∧ k ≤ L.length ∧ Below w3.heap.size w3 wr) (fun i _ => L.length - (intOf i).toNat)
  case atStart => exact ⟨0, rfl, Nat.zero_le _, Below.refl _ _⟩
  case round =>
    obtain ⟨k, rfl, hk, hbr⟩ := hrel
    have BR := Lib.hid hbr
    clear hbr
    by_cases hlt : k < L.length
    · rcases Q4.out with h0 | ⟨g3, o3, rfl, hg3, hc3⟩
      · subst h0; exact absurd hlt (by simp)
      rcases P4.out with h0 | ⟨g4, o4, rfl, hg4, hc4⟩
      · subst h0; exact absurd hlt (by simp)
      have c0 := (BR.out.cell (p := ⟨g3, o3 + k * 2, none⟩) hg3).trans (hc3 k hlt).1
      have c1 := (BR.out.cell (p := ⟨g3, o3 + k * 2 + 1, none⟩) hg3).trans (hc3 k hlt).2
      have d0 := (BR.out.cell (p := ⟨g4, o4 + k * 2, none⟩) hg4).trans (hc4 k hlt).1
      have d1 := (BR.out.cell (p := ⟨g4, o4 + k * 2 + 1, none⟩) hg4).trans (hc4 k hlt).2
      obtain ⟨x, hx⟩ : ∃ x, L[k].1 = x := ⟨_, rfl⟩
      obtain ⟨y, hy⟩ : ∃ y, L[k].2 = y := ⟨_, rfl⟩
      rw [hx] at c0 d0
      rw [hy] at c1 d1
      have hk1 : (k : Int) < (L.length : Int) := by omega
      have hk2 : (k : Int) + 1 ≤ 9223372036854775807 := by have := HLn.out; omega
      have hk0 : (0 : Int) ≤ (k : Int) := by omega
      clear hx hy hc3 hc4
      have q1 := fun w => neq_pair x y w
      go_wp2_with fail
      go_quiet (fail)
      go_wp2_with fail
      exact ⟨⟨k + 1, by go_num, hlt, BR.out.trans ((below_drewN' _ _).mono BR.out.size)⟩, by simp [intOf]; omega⟩
    · obtain rfl : k = L.length := by omega
      have B4 := Lib.hid (B3.out.trans (BR.out.mono B3.out.size))
      go_wp2_with fail
      refine (AG.out _ B4.out).mono ?_
      rintro e w5 ⟨ao5, cap5, rfl, hr5, hb5⟩
      have R5 := Lib.hid hr5
      have B5 := Lib.hid (B4.out.trans (hb5.mono B4.out.size))
      clear hr5 hb5
      go_wp2_with fail
      refine (RG.out _ B5.out).mono ?_
      rintro e w6 ⟨ao6, cap6, rfl, hr6, hb6⟩
      have R6 := Lib.hid hr6
      have Q6 := Lib.hid (R5.out.below hb6)
      have B6 := Lib.hid (B5.out.trans (hb6.mono B5.out.size))
      clear hr6 hb6
      go_wp2_with fail
      refine (same_eq ao5 ao6 cap5 cap6 (agS c s) _ Q6.out R6.out (by have := agS_len c s; omega)).mono ?_
      rintro e w7 ⟨rfl, hb7⟩
      have R7 := Lib.hid (Q6.out.below hb7)
      have B7 := Lib.hid (B6.out.trans (hb7.mono B6.out.size))
      clear hb7
      by_cases hE : ee = 0
      · have f1 : (ee != 0) = false := by simpa using hE
        have HC3 := Lib.hid (agE_zero (HEE.out.trans hE))
        have F8 := Lib.hid (strong_eight c s)
        have F9 := Lib.hid (strong_nine (agC_three HC3.out).1 (agC_three HC3.out).2.1)
        have F10 := Lib.hid (limit_ok c s)
        have KC := Lib.hid fun wx (hx : Below w7.heap.size w7 wx) => clash_kept HC3.out ao5 cap5 wx (HS.out _ (B7.out.trans (hx.mono B7.out.size))) (R7.out.below hx)
        have KG := fun q h1 h2 => fun wx (hx : Below w7.heap.size w7 wx) => get_kept HC3.out ao5 cap5 q wx (HS.out _ (B7.out.trans (hx.mono B7.out.size))) (R7.out.below hx) h1 h2
        have XG := fun q hq => fun wx (hx : Below w7.heap.size w7 wx) => getSet_any a1 c1 c q wx (HS.out _ (B7.out.trans (hx.mono B7.out.size))) (H1.out.below (B7.out.trans (hx.mono B7.out.size))) (by have := HL1.out; omega) (agC_three HC3.out).1 hq
        have YG := fun q hq => fun wx (hx : Below w7.heap.size w7 wx) => getSet_any a2 c2 s q wx (HS.out _ (B7.out.trans (hx.mono B7.out.size))) (H2.out.below (B7.out.trans (hx.mono B7.out.size))) (by have := HL2.out; omega) (agC_three HC3.out).2.1 hq
        have KG8 := Lib.hid (KG 8 (by decide) (by decide))
        have KG9 := Lib.hid (KG 9 (by decide) (by decide))
        have KG10 := Lib.hid (KG 10 (by decide) (by decide))
        have XG8 := Lib.hid (XG 8 (by decide))
        have XG9 := Lib.hid (XG 9 (by decide))
        have XG10 := Lib.hid (XG 10 (by decide))
        have YG8 := Lib.hid (YG 8 (by decide))
        have YG9 := Lib.hid (YG 9 (by decide))
        have YG10 := Lib.hid (YG 10 (by decide))
        clear KG XG YG hE
        obtain ⟨m8, hu8⟩ : ∃ u, agreedV c s 8 = u := ⟨_, rfl⟩
        obtain ⟨m9, hu9⟩ : ∃ u, agreedV c s 9 = u := ⟨_, rfl⟩
        obtain ⟨m10, hu10⟩ : ∃ u, agreedV c s 10 = u := ⟨_, rfl⟩
        obtain ⟨x8, hx8⟩ : ∃ u, valOf c 8 = u := ⟨_, rfl⟩
        obtain ⟨x9, hx9⟩ : ∃ u, valOf c 9 = u := ⟨_, rfl⟩
        obtain ⟨x10, hx10⟩ : ∃ u, valOf c 10 = u := ⟨_, rfl⟩
        obtain ⟨y8, hy8⟩ : ∃ u, valOf s 8 = u := ⟨_, rfl⟩
        obtain ⟨y9, hy9⟩ : ∃ u, valOf s 9 = u := ⟨_, rfl⟩
        obtain ⟨y10, hy10⟩ : ∃ u, valOf s 10 = u := ⟨_, rfl⟩
        rw [hu8] at KG8 F8
        rw [hx8] at XG8 F8
        rw [hy8] at YG8 F8
        rw [hu9] at KG9 F9
        rw [hx9] at XG9 F9
        rw [hy9] at YG9 F9
        rw [hu10] at KG10 F10
        rw [hx10] at XG10 F10
        rw [hy10] at YG10 F10
        obtain ⟨K, hK⟩ : ∃ K, agS c s = K := ⟨_, rfl⟩
        rw [hK] at KC KG8 KG9 KG10
        rw [hK]
        have Sm8 := Lib.hid fun wx => rstrength_any 8 m8 wx
        have Sx8 := Lib.hid fun wx => rstrength_any 8 x8 wx
        have Sy8 := Lib.hid fun wx => rstrength_any 8 y8 wx
        have Sm9 := Lib.hid fun wx => rstrength_any 9 m9 wx
        have Sx9 := Lib.hid fun wx => rstrength_any 9 x9 wx
        have Sy9 := Lib.hid fun wx => rstrength_any 9 y9 wx
        obtain ⟨sm8, hsm8⟩ : ∃ t, rS 8 m8 = t := ⟨_, rfl⟩
        rw [hsm8] at Sm8 F8
        obtain ⟨sx8, hsx8⟩ : ∃ t, rS 8 x8 = t := ⟨_, rfl⟩
        rw [hsx8] at Sx8 F8
        obtain ⟨sy8, hsy8⟩ : ∃ t, rS 8 y8 = t := ⟨_, rfl⟩
        rw [hsy8] at Sy8 F8
        obtain ⟨sm9, hsm9⟩ : ∃ t, rS 9 m9 = t := ⟨_, rfl⟩
        rw [hsm9] at Sm9 F9
        obtain ⟨sx9, hsx9⟩ : ∃ t, rS 9 x9 = t := ⟨_, rfl⟩
        rw [hsx9] at Sx9 F9
        obtain ⟨sy9, hsy9⟩ : ∃ t, rS 9 y9 = t := ⟨_, rfl⟩
        rw [hsy9] at Sy9 F9
        have fx8 : decide (sm8 < sx8) = false := by simpa using F8.out.1
        have fy8 : decide (sm8 < sy8) = false := by simpa using F8.out.2
        have fx9 : decide (sm9 < sx9) = false := by simpa using F9.out.1
        have fy9 : decide (sm9 < sy9) = false := by simpa using F9.out.2
        clear hu8 hu9 hu10 hx8 hx9 hx10 hy8 hy9 hy10 hK hsm8 hsx8 hsy8 hsm9 hsx9 hsy9
        go_wp2_with fail
        refine (KC.out _ (Below.refl _ _)).mono ?_
        rintro e w8 ⟨ao8, cap8, rfl, hb8⟩
        have B8 := Lib.hid hb8
        clear hb8
        go_wp2_with fail
        obtain ⟨wB, hwB⟩ : ∃ wB, w8.alloc (twoO (.slice a1 c.length c1) (.slice a2 s.length c2)) = wB := ⟨_, rfl⟩
        have tc0 : wB.cell? ⟨w8.heap.size, 0, none⟩ = some (.slice a1 c.length c1) := hwB ▸ (two_at (heap_alloc_new _ _)).1
        have tc1 : wB.cell? ⟨w8.heap.size, 1, none⟩ = some (.slice a2 s.length c2) := hwB ▸ (two_at (heap_alloc_new _ _)).2
        have hlB : w8.heap.size < wB.heap.size := by rw [← hwB]; simp
        have BB : Hid (Below w7.heap.size w7 wB) := Lib.hid (hwB ▸ B8.out.alloc B8.out.size _)
        rw [show w8.alloc (Obj.cells #[Value.slice a1 c.length c1, Value.slice a2 s.length c2] 22) = wB from hwB]
        have TC0 := Lib.hid tc0
        have TC1 := Lib.hid tc1
        have HLB := Lib.hid hlB
        clear tc0 tc1 hlB hwB
        go_loopw [116] (fun i wr => ∃ k : Int, i = .int .i64 k ∧ (k = 0 ∨ k = 1 ∨ k = 2) ∧ Below wB.heap.size wB wr) (fun i _ => 2 - (intOf i).toNat)
        case atStart => exact ⟨0, rfl, by omega, Below.refl _ _⟩
        case round =>
          obtain ⟨j, rfl, hj, hbj⟩ := hrel
          obtain ⟨wo, rfl⟩ : ∃ wo : World, wo = wr := ⟨_, rfl⟩
          have BJ := Lib.hid hbj
          clear hbj
          rcases hj with rfl | rfl | rfl
          · have tcj := (BJ.out.cell (p := ⟨w8.heap.size, 0, none⟩) HLB.out).trans TC0.out
            have hnw : ¬ w8.heap.size = wo.heap.size := by have := HLB.out; have := BJ.out.size; omega
            go_wp2_with fail
            obtain ⟨wI, hwI⟩ : ∃ wI, wo.alloc (intsO 8 9) = wI := ⟨_, rfl⟩
            have ic0 : wI.cell? ⟨wo.heap.size, 0, none⟩ = some (.int .i64 8) := hwI ▸ (ints_at (heap_alloc_new _ _)).1
            have ic1 : wI.cell? ⟨wo.heap.size, 1, none⟩ = some (.int .i64 9) := hwI ▸ (ints_at (heap_alloc_new _ _)).2
            have hlI : wo.heap.size < wI.heap.size := by rw [← hwI]; simp
            have BI : Hid (Below wB.heap.size wB wI) := Lib.hid (hwI ▸ BJ.out.alloc BJ.out.size _)
            rw [show wo.alloc (Obj.cells #[Value.int IntKind.i64 8, Value.int IntKind.i64 9] 3) = wI from hwI]
            have IC0 := Lib.hid ic0
            have IC1 := Lib.hid ic1
            have HLI := Lib.hid hlI
            clear ic0 ic1 hlI hwI tcj hnw
            go_loopw [122] (fun i wr => ∃ k : Int, i = .int .i64 k ∧ (k = 0 ∨ k = 1 ∨ k = 2) ∧ Below wI.heap.size wI wr) (fun i _ => 2 - (intOf i).toNat)
            case atStart => exact ⟨0, rfl, by omega, Below.refl _ _⟩
            case round =>
              obtain ⟨i, rfl, hi, hbi⟩ := hrel
              have BW := Lib.hid (BB.out.trans ((BI.out.trans (hbi.mono BI.out.size)).mono BB.out.size))
              have BK := Lib.hid hbi
              clear hbi
              rcases hi with rfl | rfl | rfl
              · have ici := (BK.out.cell (p := ⟨wo.heap.size, 0, none⟩) HLI.out).trans IC0.out
                go_wp2_with (first | (go_at_call 19; (fail_if_success (have := B20)); refine (XG8.out _ BW.out).mono ?_; rintro e w20 ⟨rfl, hb20⟩; have B20 := Lib.hid (BW.out.trans (hb20.mono BW.out.size)); have K20 := Lib.hid (BK.out.trans (hb20.mono BK.out.size)); clear hb20) | (go_at_call 19; refine (KG8.out _ B20.out).mono ?_; rintro e w21 ⟨rfl, hb21⟩; have K21 := Lib.hid (K20.out.trans (hb21.mono K20.out.size)); clear hb21) | (go_at_call 20; (fail_if_success (have := k20)); refine (Sm8.out _).mono ?_; rintro e w22 ⟨rfl, rfl⟩; have k20 := true) | (go_at_call 20; refine (Sx8.out _).mono ?_; rintro e w23 ⟨rfl, rfl⟩))
                exact ⟨⟨1, rfl, by omega, K21.out⟩, by simp [intOf]⟩
              · have ici := (BK.out.cell (p := ⟨wo.heap.size, 1, none⟩) HLI.out).trans IC1.out
                go_wp2_with (first | (go_at_call 19; (fail_if_success (have := B20)); refine (XG9.out _ BW.out).mono ?_; rintro e w20 ⟨rfl, hb20⟩; have B20 := Lib.hid (BW.out.trans (hb20.mono BW.out.size)); have K20 := Lib.hid (BK.out.trans (hb20.mono BK.out.size)); clear hb20) | (go_at_call 19; refine (KG9.out _ B20.out).mono ?_; rintro e w21 ⟨rfl, hb21⟩; have K21 := Lib.hid (K20.out.trans (hb21.mono K20.out.size)); clear hb21) | (go_at_call 20; (fail_if_success (have := k20)); refine (Sm9.out _).mono ?_; rintro e w22 ⟨rfl, rfl⟩; have k20 := true) | (go_at_call 20; refine (Sx9.out _).mono ?_; rintro e w23 ⟨rfl, rfl⟩))
                exact ⟨⟨2, rfl, by omega, K21.out⟩, by simp [intOf]⟩
              · by_cases hv : x10 = 0
                · have v1 : (x10 != 0) = false := by simpa using hv
                  clear hv
                  go_wp2_with (first | (go_at_call 19; (fail_if_success (have := B20)); refine (XG10.out _ BW.out).mono ?_; rintro e w20 ⟨rfl, hb20⟩; have B20 := Lib.hid (BW.out.trans (hb20.mono BW.out.size)); have K20 := Lib.hid (BK.out.trans (hb20.mono BK.out.size)); clear hb20) | (go_at_call 19; refine (KG10.out _ B20.out).mono ?_; rintro e w21 ⟨rfl, hb21⟩; have K21 := Lib.hid (K20.out.trans (hb21.mono K20.out.size)); clear hb21))
                  exact ⟨⟨1, rfl, by omega, BI.out.trans (K21.out.mono BI.out.size)⟩, by simp [intOf]⟩
                · have v1 : (x10 != 0) = true := by simpa using hv
                  obtain ⟨n1, n2⟩ := longer_false F10.out.1 hv
                  have v2 : (m10 == 0) = false := by simpa using n1
                  have v3 : decide (x10 < m10) = false := by simpa using n2
                  clear hv n1 n2
                  go_wp2_with (first | (go_at_call 19; (fail_if_success (have := B20)); refine (XG10.out _ BW.out).mono ?_; rintro e w20 ⟨rfl, hb20⟩; have B20 := Lib.hid (BW.out.trans (hb20.mono BW.out.size)); have K20 := Lib.hid (BK.out.trans (hb20.mono BK.out.size)); clear hb20) | (go_at_call 19; refine (KG10.out _ B20.out).mono ?_; rintro e w21 ⟨rfl, hb21⟩; have K21 := Lib.hid (K20.out.trans (hb21.mono K20.out.size)); clear hb21))
                  exact ⟨⟨1, rfl, by omega, BI.out.trans (K21.out.mono BI.out.size)⟩, by simp [intOf]⟩
          · have tcj := (BJ.out.cell (p := ⟨w8.heap.size, 1, none⟩) HLB.out).trans TC1.out
            have hnw : ¬ w8.heap.size = wo.heap.size := by have := HLB.out; have := BJ.out.size; omega
            go_wp2_with fail
            obtain ⟨wI, hwI⟩ : ∃ wI, wo.alloc (intsO 8 9) = wI := ⟨_, rfl⟩
            have ic0 : wI.cell? ⟨wo.heap.size, 0, none⟩ = some (.int .i64 8) := hwI ▸ (ints_at (heap_alloc_new _ _)).1
            have ic1 : wI.cell? ⟨wo.heap.size, 1, none⟩ = some (.int .i64 9) := hwI ▸ (ints_at (heap_alloc_new _ _)).2
            have hlI : wo.heap.size < wI.heap.size := by rw [← hwI]; simp
            have BI : Hid (Below wB.heap.size wB wI) := Lib.hid (hwI ▸ BJ.out.alloc BJ.out.size _)
            rw [show wo.alloc (Obj.cells #[Value.int IntKind.i64 8, Value.int IntKind.i64 9] 3) = wI from hwI]
            have IC0 := Lib.hid ic0
            have IC1 := Lib.hid ic1
            have HLI := Lib.hid hlI
            clear ic0 ic1 hlI hwI tcj hnw
            go_loopw [122] (fun i wr => ∃ k : Int, i = .int .i64 k ∧ (k = 0 ∨ k = 1 ∨ k = 2) ∧ Below wI.heap.size wI wr) (fun i _ => 2 - (intOf i).toNat)
            case atStart => exact ⟨0, rfl, by omega, Below.refl _ _⟩
            case round =>
              obtain ⟨i, rfl, hi, hbi⟩ := hrel
              have BW := Lib.hid (BB.out.trans ((BI.out.trans (hbi.mono BI.out.size)).mono BB.out.size))
              have BK := Lib.hid hbi
              clear hbi
              rcases hi with rfl | rfl | rfl
              · have ici := (BK.out.cell (p := ⟨wo.heap.size, 0, none⟩) HLI.out).trans IC0.out
                go_wp2_with (first | (go_at_call 19; (fail_if_success (have := B20)); refine (YG8.out _ BW.out).mono ?_; rintro e w20 ⟨rfl, hb20⟩; have B20 := Lib.hid (BW.out.trans (hb20.mono BW.out.size)); have K20 := Lib.hid (BK.out.trans (hb20.mono BK.out.size)); clear hb20) | (go_at_call 19; refine (KG8.out _ B20.out).mono ?_; rintro e w21 ⟨rfl, hb21⟩; have K21 := Lib.hid (K20.out.trans (hb21.mono K20.out.size)); clear hb21) | (go_at_call 20; (fail_if_success (have := k20)); refine (Sm8.out _).mono ?_; rintro e w22 ⟨rfl, rfl⟩; have k20 := true) | (go_at_call 20; refine (Sy8.out _).mono ?_; rintro e w23 ⟨rfl, rfl⟩))
                exact ⟨⟨1, rfl, by omega, K21.out⟩, by simp [intOf]⟩
              · have ici := (BK.out.cell (p := ⟨wo.heap.size, 1, none⟩) HLI.out).trans IC1.out
                go_wp2_with (first | (go_at_call 19; (fail_if_success (have := B20)); refine (YG9.out _ BW.out).mono ?_; rintro e w20 ⟨rfl, hb20⟩; have B20 := Lib.hid (BW.out.trans (hb20.mono BW.out.size)); have K20 := Lib.hid (BK.out.trans (hb20.mono BK.out.size)); clear hb20) | (go_at_call 19; refine (KG9.out _ B20.out).mono ?_; rintro e w21 ⟨rfl, hb21⟩; have K21 := Lib.hid (K20.out.trans (hb21.mono K20.out.size)); clear hb21) | (go_at_call 20; (fail_if_success (have := k20)); refine (Sm9.out _).mono ?_; rintro e w22 ⟨rfl, rfl⟩; have k20 := true) | (go_at_call 20; refine (Sy9.out _).mono ?_; rintro e w23 ⟨rfl, rfl⟩))
                exact ⟨⟨2, rfl, by omega, K21.out⟩, by simp [intOf]⟩
              · by_cases hv : y10 = 0
                · have v1 : (y10 != 0) = false := by simpa using hv
                  clear hv
                  go_wp2_with (first | (go_at_call 19; (fail_if_success (have := B20)); refine (YG10.out _ BW.out).mono ?_; rintro e w20 ⟨rfl, hb20⟩; have B20 := Lib.hid (BW.out.trans (hb20.mono BW.out.size)); have K20 := Lib.hid (BK.out.trans (hb20.mono BK.out.size)); clear hb20) | (go_at_call 19; refine (KG10.out _ B20.out).mono ?_; rintro e w21 ⟨rfl, hb21⟩; have K21 := Lib.hid (K20.out.trans (hb21.mono K20.out.size)); clear hb21))
                  exact ⟨⟨2, rfl, by omega, BI.out.trans (K21.out.mono BI.out.size)⟩, by simp [intOf]⟩
                · have v1 : (y10 != 0) = true := by simpa using hv
                  obtain ⟨n1, n2⟩ := longer_false F10.out.2 hv
                  have v2 : (m10 == 0) = false := by simpa using n1
                  have v3 : decide (y10 < m10) = false := by simpa using n2
                  clear hv n1 n2
                  go_wp2_with (first | (go_at_call 19; (fail_if_success (have := B20)); refine (YG10.out _ BW.out).mono ?_; rintro e w20 ⟨rfl, hb20⟩; have B20 := Lib.hid (BW.out.trans (hb20.mono BW.out.size)); have K20 := Lib.hid (BK.out.trans (hb20.mono BK.out.size)); clear hb20) | (go_at_call 19; refine (KG10.out _ B20.out).mono ?_; rintro e w21 ⟨rfl, hb21⟩; have K21 := Lib.hid (K20.out.trans (hb21.mono K20.out.size)); clear hb21))
                  exact ⟨⟨2, rfl, by omega, BI.out.trans (K21.out.mono BI.out.size)⟩, by simp [intOf]⟩
          · have BZ := Lib.hid (B7.out.trans ((BB.out.trans (BJ.out.mono BB.out.size)).mono B7.out.size))
            go_wp2_with (go_at_call 6; refine (AW.out _ BZ.out).mono ?_; rintro e w30 ⟨rfl, hb30⟩; have B30 := Lib.hid (BZ.out.trans (hb30.mono BZ.out.size)); clear hb30)
            go_ret
            exact ⟨rfl, B30.out⟩
      · have f1 : (ee != 0) = true := by simpa using hE
        clear hE
        go_wp2_with (go_at_call 6; refine (AW.out _ B7.out).mono ?_; rintro e w30 ⟨rfl, hb30⟩; have B30 := Lib.hid (B7.out.trans (hb30.mono B7.out.size)); clear hb30)
        go_ret
        exact ⟨rfl, B30.out⟩

end Go.Proofs.YtpncdcncfinohaaDoor

