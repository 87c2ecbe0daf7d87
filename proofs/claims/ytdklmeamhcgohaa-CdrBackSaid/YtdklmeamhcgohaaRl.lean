/-
  PROVED HERE: what the law's function read does with an act, whatever its kind.
-/
import Derived.Test.YtdklmeamhcgohaaRk
namespace Go.Proofs.Ytdklmeamhcgohaa
open Go.RowKit

theorem flag_n (r : Nat × Bool × Nat) : (flagOf r).n = 0 ∨ (flagOf r).n = 1 := by
  cases h : r.2.1 with
  | true => rw [flagOf_wrong r h]; exact .inl rfl
  | false =>
    by_cases h2 : 1 < r.2.2
    · rw [flagOf_two r h h2]; exact .inl rfl
    · rw [flagOf_ok r h h2]; simp only; omega

set_option maxRecDepth 100000 in
set_option maxHeartbeats 1600000 in
theorem read_1 (b : Nat) (big : Bool) (a : Int) (s : ByteArray) (i : Nat) (wr : Bool) (n m : Int) (t : ByteArray) (w : World) (h : CdAt w b big a s i wr) (ha : 0 ≤ a) (ha2 : a ≤ 7) (hs : s.size ≤ 1000000) (hi : i ≤ s.size) :
    Calls Try.prog 23 #[.pointer (some ⟨b, 0, none⟩), actV 1 n m t] w fun e w' => e = .returned (toldV (flagA s big a i wr).n noB (flagA s big a i wr).e) ∧ RG w b big a s (flagA s big a i wr) w' := by
  have hc := h.kept (readW_grown w 1 n m t none) (by simp)
  have ME := cflag_any b big a s i wr (readW w 1 n m t) hc ha ha2 hs hi
  have hfn : (flagA s big a i wr).n = 0 ∨ (flagA s big a i wr).n = 1 := flag_n _
  obtain ⟨R, hR⟩ : ∃ R, flagA s big a i wr = R := ⟨_, rfl⟩
  rw [hR] at ME hfn ⊢
  clear hR hc
  have HL := Lib.hid h.lt
  clear h
  unfold actV toldV noB
  rcases hfn with hv | hv
  · have ME : Hid (Calls Try.prog 61 #[.pointer (some ⟨b, 0, none⟩)] (readW w 1 n m t) fun e w' => e = .returned (.tuple #[.bool false, .int .i64 R.e]) ∧ CdAt w' b big a s R.i R.w ∧ (readW w 1 n m t).grownBy w' (some b)) := by
      rw [show false = decide (R.n = 1) from by rw [hv]; rfl]
      exact ME
    rw [hv]
    clear hv
    go_enter Try.func23, Try.ntmps23
    go_wp2_with fail
    refine (show Calls Try.prog 61 #[Value.pointer (some { block := b, off := 0 })] (readW w 1 n m t) _ from ME.out.mono ?_)
    rintro e w4 ⟨rfl, h4, g4⟩
    obtain ⟨r0, r1, r2, q0, q1, q2, t0, t1, t2, f0, f1, f2⟩ := ToldS.of HL.out g4
    have H4 := Lib.hid (show RG w b big a s R w4 from ⟨h4, (readW_grown w 1 n m t (some b)).trans g4⟩)
    clear h4 g4
    obtain ⟨B, hB⟩ : ∃ B, w.heap.size = B := ⟨_, rfl⟩
    have HB := Lib.hid hB
    rw [hB] at r0 r1 r2 q0 q1 q2 t0 t1 t2 f0 f1 f2
    rw [hB]
    clear hB
    go_wp2_with fail
    have hl := HL.out
    have hbb := HB.out
    refine bodyPost_ret (v := toldV 0 { data := #[] } R.e) (by simp [toldV, results, Try.results23, go_sem, *]) rfl ⟨rfl, ?_⟩
    exact ((((H4.out.far hl _ _ (by simp; omega)).far hl _ _ (by simp; omega)).far hl _ _ (by simp; omega)).far hl _ _ (by simp; omega))
  · have ME : Hid (Calls Try.prog 61 #[.pointer (some ⟨b, 0, none⟩)] (readW w 1 n m t) fun e w' => e = .returned (.tuple #[.bool true, .int .i64 R.e]) ∧ CdAt w' b big a s R.i R.w ∧ (readW w 1 n m t).grownBy w' (some b)) := by
      rw [show true = decide (R.n = 1) from by rw [hv]; rfl]
      exact ME
    rw [hv]
    clear hv
    go_enter Try.func23, Try.ntmps23
    go_wp2_with fail
    refine (show Calls Try.prog 61 #[Value.pointer (some { block := b, off := 0 })] (readW w 1 n m t) _ from ME.out.mono ?_)
    rintro e w4 ⟨rfl, h4, g4⟩
    obtain ⟨r0, r1, r2, q0, q1, q2, t0, t1, t2, f0, f1, f2⟩ := ToldS.of HL.out g4
    have H4 := Lib.hid (show RG w b big a s R w4 from ⟨h4, (readW_grown w 1 n m t (some b)).trans g4⟩)
    clear h4 g4
    obtain ⟨B, hB⟩ : ∃ B, w.heap.size = B := ⟨_, rfl⟩
    have HB := Lib.hid hB
    rw [hB] at r0 r1 r2 q0 q1 q2 t0 t1 t2 f0 f1 f2
    rw [hB]
    clear hB
    go_wp2_with fail
    have hl := HL.out
    have hbb := HB.out
    refine bodyPost_ret (v := toldV 1 { data := #[] } R.e) (by simp [toldV, results, Try.results23, go_sem, *]) rfl ⟨rfl, ?_⟩
    exact (((((H4.out.far hl _ _ (by simp; omega)).far hl _ _ (by simp; omega)).far hl _ _ (by simp; omega)).far hl _ _ (by simp; omega)).far hl _ _ (by simp; omega))

theorem flag_t (r : Nat × Bool × Nat) : (flagOf r).t = noB := by unfold flagOf; repeat' split
                                                                 all_goals rfl
theorem cnt_n (s : ByteArray) (m : Int) (r : Nat × Bool × Nat) : (cntOf s m r).n = 0 := by unfold cntOf; repeat' split
                                                                                           all_goals rfl
theorem text_n (r : RR) : (textOf r).n = 0 := by unfold textOf; repeat' split
                                                 all_goals rfl
theorem raw_n (s : ByteArray) (n : Int) (i : Nat) (wr : Bool) : (rawA s n i wr).n = 0 := by unfold rawA; repeat' split
                                                                                            all_goals rfl
theorem alg_n (s : ByteArray) (a n : Int) (i : Nat) (wr : Bool) : (algA s a n i wr).n = 0 := by unfold algA; repeat' split
                                                                                                all_goals rfl
theorem alg_t (s : ByteArray) (a n : Int) (i : Nat) (wr : Bool) : (algA s a n i wr).t = noB := by unfold algA; repeat' split
                                                                                                  all_goals rfl

/-- THE LAW's read: what rdA says. -/
theorem read_any (b : Nat) (big : Bool) (a : Int) (s : ByteArray) (i : Nat) (wr : Bool) (k n m : Int) (t : ByteArray) (w : World) (h : CdAt w b big a s i wr) (ha : 0 ≤ a) (ha2 : a ≤ 7) (hs : s.size ≤ 1000000) (hi : i ≤ s.size) :
    Calls Try.prog 23 #[.pointer (some ⟨b, 0, none⟩), actV k n m t] w fun e w' => e = .returned (toldV (rdA s big a k n i wr).n (rdA s big a k n i wr).t (rdA s big a k n i wr).e) ∧ RG w b big a s (rdA s big a k n i wr) w' := by
  unfold rdA
  by_cases k0 : k = 0
  · subst k0; exact read_0 b big a s i wr n m t w h ha ha2 hs hi
  rw [if_neg k0]
  by_cases k1 : k = 1
  · subst k1; rw [if_pos rfl, show (flagA s big a i wr).t = noB from flag_t _]; exact read_1 b big a s i wr n m t w h ha ha2 hs hi
  rw [if_neg k1]
  by_cases k2 : k = 2
  · subst k2; exact read_2 b big a s i wr n m t w h ha ha2 hs hi
  rw [if_neg k2]
  by_cases k3 : k = 3
  · subst k3; exact read_3 b big a s i wr n m t w h ha ha2 hs hi
  rw [if_neg k3]
  by_cases k4 : k = 4
  · subst k4; exact read_4 b big a s i wr n m t w h ha ha2 hs hi
  rw [if_neg k4]
  by_cases k5 : k = 5
  · subst k5; rw [if_pos rfl, show (textA s big a i wr).n = 0 from text_n _]; exact read_5 b big a s i wr n m t w h ha ha2 hs hi
  rw [if_neg k5]
  by_cases k6 : k = 6
  · subst k6; rw [if_pos rfl, show (cntA s big a 0 i wr).n = 0 from cnt_n _ _ _]; exact read_6 b big a s i wr n m t w h ha ha2 hs hi
  rw [if_neg k6]
  by_cases k7 : k = 7
  · subst k7; rw [if_pos rfl, raw_n]; exact read_7 b big a s i wr n m t w h ha ha2 hs hi
  rw [if_neg k7, alg_n, alg_t]
  exact read_align b big a s i wr n m t w h ha ha2 hs hi k k0 k1 k2 k3 k4 k5 k6 k7

end Go.Proofs.Ytdklmeamhcgohaa
