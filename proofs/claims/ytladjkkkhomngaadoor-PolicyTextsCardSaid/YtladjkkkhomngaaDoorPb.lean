/- The contract of policy.word. -/
import Derived.Test.YtladjkkkhomngaaDoorPa
namespace Go.Proofs.YtladjkkkhomngaaDoor
set_option maxRecDepth 8000
open Go.RowKit Go.Sort Go.BigFrame

theorem itoa_any (n : Int) (h1 : 0 ≤ n) (h2 : n ≤ 1000000) (w : World) (h : TxtEnv w) :
    Calls Tryd.prog 61 #[.int .i64 n] w fun e w' => e = .returned (.string ⟨(Lib.itoa n).toArray⟩) ∧ Below w.heap.size w w' :=
  (Tryd.strconv_Itoa n (by omega) (by omega) w h.tab).mono fun e w' ⟨he, k, os, hw⟩ => ⟨he, by rw [hw]; exact below_regrown w _ os⟩

set_option maxRecDepth 100000 in
set_option maxHeartbeats 1000000 in
theorem word_num (k : Nat) (v : Int) (w : World) (h : TxtEnv w) (hk : k = 10 ∨ k = 12) (h1 : 0 ≤ v) (h2 : v ≤ 1000000) :
    Calls Tryd.prog 54 #[.agg #[.int .i64 k, .int .i64 v]] w fun e w' => e = .returned (.string (wordP ⟨k, v⟩)) ∧ Below w.heap.size w w' := by
  have hb : Below w.heap.size w (w.alloc (polO k v)) := (Below.refl _ _).alloc (Nat.le_refl _) _
  have HB := Lib.hid hb
  have HV := Lib.hid h
  have BD := Lib.hid fun wx (hx : Below w.heap.size w wx) => byDefault_any k wx (h.sorts.below hx h.sorts.pos) (by simp [isK]; omega)
  have IT := Lib.hid fun wx (hx : Below w.heap.size w wx) => itoa_any v h1 h2 wx (h.below hx)
  have hd : defV (k : Int) = 0 := by unfold defV; rw [if_pos (by omega)]
  rw [hd] at BD
  have HF : Hid ((⟨(Lib.itoa v).toArray⟩ : ByteArray) = wordP ⟨k, v⟩) := Lib.hid (by unfold wordP; rw [if_pos hd])
  rw [← HF.out]
  obtain ⟨s, hs⟩ : ∃ s, (⟨(Lib.itoa v).toArray⟩ : ByteArray) = s := ⟨_, rfl⟩
  rw [hs] at IT
  rw [hs]
  have n0 := polO_c0 k v w
  have n1 := polO_c1 k v w
  clear h hb hd HF hs hk h1 h2
  go_enter Tryd.func54, Tryd.ntmps54
  go_wp2_with (first | (go_at_call 43; refine (BD.out _ HB.out).mono ?_; rintro e w2 ⟨rfl, rfl⟩) | (go_at_call 61; refine (IT.out _ HB.out).mono ?_; rintro e w3 ⟨rfl, hb3⟩; have B3 := Lib.hid (HB.out.trans (hb3.mono HB.out.size)); clear hb3))
  go_ret
  exact ⟨rfl, B3.out⟩

set_option maxRecDepth 100000 in
set_option maxHeartbeats 2000000 in
theorem word_text (k j : Nat) (w : World) (h : TxtEnv w) (h1 : 1 ≤ k) (h2 : k ≤ 13) (hk : ¬ (k = 10 ∨ k = 12)) (hj : j < 4) :
    Calls Tryd.prog 54 #[.agg #[.int .i64 k, .int .i64 ((j : Int) + 1)]] w fun e w' => e = .returned (.string (wordP ⟨k, (j : Int) + 1⟩)) ∧ Below w.heap.size w w' := by
  have hb : Below w.heap.size w (w.alloc (polO k ((j : Int) + 1))) := (Below.refl _ _).alloc (Nat.le_refl _) _
  have HB := Lib.hid hb
  have BD := Lib.hid fun wx (hx : Below w.heap.size w wx) => byDefault_any k wx (h.sorts.below hx h.sorts.pos) (by simp [isK]; omega)
  have hd : defV (k : Int) = 1 := by unfold defV; rw [if_neg (by omega)]
  rw [hd] at BD
  have HF : Hid ((wordsN k).getD (j + 1) ⟨#[]⟩ = wordP ⟨k, (j : Int) + 1⟩) := Lib.hid (by unfold wordP wordsL; rw [if_neg (by rw [hd]; decide)]; simp)
  rw [← HF.out]
  have ht := (h.below hb).text k h1 h2 (j + 1) (by omega)
  obtain ⟨s, hs⟩ : ∃ s, (wordsN k).getD (j + 1) (⟨#[]⟩ : ByteArray) = s := ⟨_, rfl⟩
  rw [hs] at ht
  rw [hs]
  have hpos : 0 < w.heap.size := h.sorts.pos
  have n0 := polO_c0 k ((j : Int) + 1) w
  have n1 := polO_c1 k ((j : Int) + 1) w
  have t1 : (w.alloc (polO k ((j : Int) + 1))).cell? ⟨0, k * 6 + 1 + j, none⟩ = some (.string s) := by rw [show k * 6 + 1 + j = k * 6 + (j + 1) by omega]; exact ht
  have g1 : (0 : Int) ≤ (j : Int) := by omega
  have g2 : (j : Int) < 4 := by omega
  have g3 : (0 : Int) ≤ (k : Int) := by omega
  have g4 : (k : Int) < 14 := by omega
  have g5 : IntKind.i64.wrap ((j : Int) + 1 - 1) = (j : Int) := by rw [show (j : Int) + 1 - 1 = j by omega]; exact IntWalk.i64_in _ (by omega)
  clear h hb hd HF hs hk h1 h2 ht
  go_enter Tryd.func54, Tryd.ntmps54
  go_wp2_with (go_at_call 43; refine (BD.out _ HB.out).mono ?_; rintro e w2 ⟨rfl, rfl⟩)
  go_quiet (fail)
  go_wp2_with fail
  go_ret
  exact ⟨rfl, HB.out.trans ((below_drewN' _ _).mono HB.out.size)⟩

theorem word_any (k v : Int) (w : World) (h : TxtEnv w) (hp : okP k v = true) :
    Calls Tryd.prog 54 #[.agg #[.int .i64 k, .int .i64 v]] w fun e w' => e = .returned (.string (wordP ⟨k, v⟩)) ∧ Below w.heap.size w w' := by
  simp only [okP, isK, Bool.and_eq_true, decide_eq_true_eq] at hp
  obtain ⟨⟨⟨h1, h2⟩, h3⟩, h4⟩ := hp
  obtain ⟨n, rfl⟩ : ∃ n : Nat, k = n := ⟨k.toNat, by omega⟩
  by_cases hk : n = 10 ∨ n = 12
  · refine word_num n v w h hk ?_ ?_
    · unfold defV at h3; rw [if_pos (by omega)] at h3; exact h3
    · unfold mostV at h4
      split at h4
      · exact h4
      · rw [if_pos (by omega)] at h4; omega
  · have h5 : 1 ≤ v := by unfold defV at h3; rw [if_neg (by omega)] at h3; exact h3
    have h6 : v ≤ 4 := by
      unfold mostV at h4
      rw [if_neg (by omega), if_neg (by omega)] at h4
      split at h4
      · exact h4
      · split at h4 <;> omega
    obtain ⟨j, rfl⟩ : ∃ j : Nat, v = (j : Int) + 1 := ⟨(v - 1).toNat, by omega⟩
    exact word_text n j w h (by omega) (by omega) hk (by omega)

end Go.Proofs.YtladjkkkhomngaaDoor
