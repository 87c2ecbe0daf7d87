/- Compare. -/
import Derived.Test.YticbjhogdfpdkaaDoorZd
namespace Go.Proofs.YticbjhogdfpdkaaDoor
set_option maxRecDepth 8000
open Go.RowKit Go.Shelf

set_option maxRecDepth 100000 in
set_option maxHeartbeats 8000000 in
theorem compare_texts (a b : ByteArray) (N : Nat) (Z : Int) (B : Bool) (w : World) (h : Env w) (ha : a.size ≤ 1000) (hb : b.size ≤ 1000)
    (hF : okT a.data.toList = true → okT b.data.toList = true → ∀ wx, Calls Tryd.prog 39 #[.agg (nC (parseN a) (parseS a) (parseB a)), .agg (nC (parseN b) (parseS b) (parseB b))] wx fun e w' => e = .returned (.agg (nC N Z B)) ∧ Below wx.heap.size wx w')
    (hN : N < 10 ^ 128) :
    Calls Tryd.prog 10 #[.string a, .string b] w fun e w' => e = .returned (.tuple #[.int .i64 (if (okT a.data.toList && okT b.data.toList) = true then (sg B N).sign else 0), .int .i64 (if (okT a.data.toList && okT b.data.toList) = true then 0 else 2)]) ∧ Below w.heap.size w w' := by
  have PA := Lib.hid (parse_any a w h ha)
  have PB := Lib.hid fun wx (he : Env wx) => parse_any b wx he hb
  have ZR := Lib.hid fun X wx (hd : DigAt wx X N) => zero_any X N wx hd hN
  have HE := Lib.hid h
  have HF := Lib.hid hF
  clear h ha hb hN hF
  generalize okT a.data.toList = o1 at PA HF ⊢
  generalize okT b.data.toList = o2 at PB HF ⊢
  generalize parseN a = n1 at PA HF
  generalize parseN b = n2 at PB HF
  generalize parseS a = s1 at PA HF
  generalize parseS b = s2 at PB HF
  generalize parseB a = b1 at PA HF
  generalize parseB b = b2 at PB HF
  obtain ⟨D, hD⟩ : ∃ D, (sg B N).sign = D := ⟨_, rfl⟩
  rw [hD]
  have HD := Lib.hid hD
  clear hD
  go_enter Tryd.func10, Tryd.ntmps10
  cases o1 with
  | false =>
    go_wp2_with (first | (go_at_call 38; refine PA.out.mono ?_; rintro e w1 ⟨rfl, hb1⟩; have H1 := Lib.hid (NwI.new hb1); clear hb1 PA) | (rw [zero45]; refine wpList_storeV rfl 45 _ _ rfl ⟨w1.heap.size, 0, none⟩ rfl (.agg (nC n1 s1 b1)) rfl _ (store_num H1.out.a) ?_; have H2 := Lib.hid (H1.out.put (n' := n1) (s' := s1) (b' := b1)); generalize (w1.alloc (.cells (nC 0 0 false) 45)).setRow w1.heap.size (nC n1 s1 b1) = W2 at H2 ⊢) | (go_at_call 38; refine (PB.out _ (HE.out.below H2.out.bl)).mono ?_; rintro e w3 ⟨rfl, hb3⟩; have H3 := Lib.hid (H2.out.later hb3); have H4 := Lib.hid H3.out.more; have Q4 := Lib.hid (NwI.new H3.out.bl); clear hb3) | (rw [zero45]; refine wpList_storeV rfl 45 _ _ rfl ⟨w3.heap.size, 0, none⟩ rfl (.agg (nC n2 s2 b2)) rfl _ (store_num Q4.out.a) ?_; have H5 := Lib.hid (H4.out.row (q := w3.heap.size) (cs := nC n2 s2 b2) (Nat.ne_of_lt (blk_lt H3.out.a)) Q4.out.lo); have Q5 := Lib.hid (Q4.out.put (n' := n2) (s' := s2) (b' := b2)); generalize (w3.alloc (.cells (nC 0 0 false) 45)).setRow w3.heap.size (nC n2 s2 b2) = W5 at H5 Q5 ⊢))
    go_ret2
    exact ⟨rfl, H5.out.bl⟩
  | true =>
    cases o2 with
    | false =>
      go_wp2_with (first | (go_at_call 38; refine PA.out.mono ?_; rintro e w1 ⟨rfl, hb1⟩; have H1 := Lib.hid (NwI.new hb1); clear hb1 PA) | (rw [zero45]; refine wpList_storeV rfl 45 _ _ rfl ⟨w1.heap.size, 0, none⟩ rfl (.agg (nC n1 s1 b1)) rfl _ (store_num H1.out.a) ?_; have H2 := Lib.hid (H1.out.put (n' := n1) (s' := s1) (b' := b1)); generalize (w1.alloc (.cells (nC 0 0 false) 45)).setRow w1.heap.size (nC n1 s1 b1) = W2 at H2 ⊢) | (go_at_call 38; refine (PB.out _ (HE.out.below H2.out.bl)).mono ?_; rintro e w3 ⟨rfl, hb3⟩; have H3 := Lib.hid (H2.out.later hb3); have H4 := Lib.hid H3.out.more; have Q4 := Lib.hid (NwI.new H3.out.bl); clear hb3) | (rw [zero45]; refine wpList_storeV rfl 45 _ _ rfl ⟨w3.heap.size, 0, none⟩ rfl (.agg (nC n2 s2 b2)) rfl _ (store_num Q4.out.a) ?_; have H5 := Lib.hid (H4.out.row (q := w3.heap.size) (cs := nC n2 s2 b2) (Nat.ne_of_lt (blk_lt H3.out.a)) Q4.out.lo); have Q5 := Lib.hid (Q4.out.put (n' := n2) (s' := s2) (b' := b2)); generalize (w3.alloc (.cells (nC 0 0 false) 45)).setRow w3.heap.size (nC n2 s2 b2) = W5 at H5 Q5 ⊢))
      go_ret2
      exact ⟨rfl, H5.out.bl⟩
    | true =>
      have FN := Lib.hid (HF.out rfl rfl)
      by_cases h0 : N = 0
      · have e0 : decide (N = 0) = true := decide_eq_true h0
        have hD0 : D = 0 := by rw [← HD.out, h0]; unfold sg; split <;> rfl
        subst hD0
        clear h0
        go_wp2_with (first | (go_at_call 40; refine (ZR.out w6.heap.size _ R7.out.a.dig).mono ?_; rintro e w8 ⟨rfl, rfl⟩) | (rw [zero45]; refine wpList_storeV rfl 45 _ _ rfl ⟨w6.heap.size, 0, none⟩ rfl (.agg (nC N Z B)) rfl _ (store_num R6.out.a) ?_; have R7 := Lib.hid (R6.out.put (n' := N) (s' := Z) (b' := B)); generalize (w6.alloc (.cells (nC 0 0 false) 45)).setRow w6.heap.size (nC N Z B) = W7 at R7 ⊢; have c7 := R7.out.a.sign) | (go_at_call 39; refine (FN.out _).mono ?_; rintro e w6 ⟨rfl, hb6⟩; have R6 := Lib.hid (NwI.new (w := w) (H5.out.bl.trans (hb6.mono H5.out.bl.size))); clear hb6) | refine wpList_loadV rfl 45 _ rfl ⟨w1.heap.size, 0, none⟩ rfl _ (load_num H5.out.a) ?_ | refine wpList_loadV rfl 45 _ rfl ⟨w3.heap.size, 0, none⟩ rfl _ (load_num Q5.out.a) ?_ | (go_at_call 38; refine PA.out.mono ?_; rintro e w1 ⟨rfl, hb1⟩; have H1 := Lib.hid (NwI.new hb1); clear hb1 PA) | (rw [zero45]; refine wpList_storeV rfl 45 _ _ rfl ⟨w1.heap.size, 0, none⟩ rfl (.agg (nC n1 s1 b1)) rfl _ (store_num H1.out.a) ?_; have H2 := Lib.hid (H1.out.put (n' := n1) (s' := s1) (b' := b1)); generalize (w1.alloc (.cells (nC 0 0 false) 45)).setRow w1.heap.size (nC n1 s1 b1) = W2 at H2 ⊢) | (go_at_call 38; refine (PB.out _ (HE.out.below H2.out.bl)).mono ?_; rintro e w3 ⟨rfl, hb3⟩; have H3 := Lib.hid (H2.out.later hb3); have H4 := Lib.hid H3.out.more; have Q4 := Lib.hid (NwI.new H3.out.bl); clear hb3) | (rw [zero45]; refine wpList_storeV rfl 45 _ _ rfl ⟨w3.heap.size, 0, none⟩ rfl (.agg (nC n2 s2 b2)) rfl _ (store_num Q4.out.a) ?_; have H5 := Lib.hid (H4.out.row (q := w3.heap.size) (cs := nC n2 s2 b2) (Nat.ne_of_lt (blk_lt H3.out.a)) Q4.out.lo); have Q5 := Lib.hid (Q4.out.put (n' := n2) (s' := s2) (b' := b2)); generalize (w3.alloc (.cells (nC 0 0 false) 45)).setRow w3.heap.size (nC n2 s2 b2) = W5 at H5 Q5 ⊢))
        go_ret2
        exact ⟨rfl, R7.out.bl⟩
      · have e0 : decide (N = 0) = false := decide_eq_false h0
        cases B with
        | false =>
          have hD0 : D = 1 := by
            rw [← HD.out]
            exact Int.sign_eq_one_of_pos (by unfold sg; simp only [Bool.false_eq_true, if_false]; omega)
          subst hD0
          clear h0
          go_wp2_with (first | (go_at_call 40; refine (ZR.out w6.heap.size _ R7.out.a.dig).mono ?_; rintro e w8 ⟨rfl, rfl⟩) | (rw [zero45]; refine wpList_storeV rfl 45 _ _ rfl ⟨w6.heap.size, 0, none⟩ rfl (.agg (nC N Z false)) rfl _ (store_num R6.out.a) ?_; have R7 := Lib.hid (R6.out.put (n' := N) (s' := Z) (b' := false)); generalize (w6.alloc (.cells (nC 0 0 false) 45)).setRow w6.heap.size (nC N Z false) = W7 at R7 ⊢; have c7 := R7.out.a.sign) | (go_at_call 39; refine (FN.out _).mono ?_; rintro e w6 ⟨rfl, hb6⟩; have R6 := Lib.hid (NwI.new (w := w) (H5.out.bl.trans (hb6.mono H5.out.bl.size))); clear hb6) | refine wpList_loadV rfl 45 _ rfl ⟨w1.heap.size, 0, none⟩ rfl _ (load_num H5.out.a) ?_ | refine wpList_loadV rfl 45 _ rfl ⟨w3.heap.size, 0, none⟩ rfl _ (load_num Q5.out.a) ?_ | (go_at_call 38; refine PA.out.mono ?_; rintro e w1 ⟨rfl, hb1⟩; have H1 := Lib.hid (NwI.new hb1); clear hb1 PA) | (rw [zero45]; refine wpList_storeV rfl 45 _ _ rfl ⟨w1.heap.size, 0, none⟩ rfl (.agg (nC n1 s1 b1)) rfl _ (store_num H1.out.a) ?_; have H2 := Lib.hid (H1.out.put (n' := n1) (s' := s1) (b' := b1)); generalize (w1.alloc (.cells (nC 0 0 false) 45)).setRow w1.heap.size (nC n1 s1 b1) = W2 at H2 ⊢) | (go_at_call 38; refine (PB.out _ (HE.out.below H2.out.bl)).mono ?_; rintro e w3 ⟨rfl, hb3⟩; have H3 := Lib.hid (H2.out.later hb3); have H4 := Lib.hid H3.out.more; have Q4 := Lib.hid (NwI.new H3.out.bl); clear hb3) | (rw [zero45]; refine wpList_storeV rfl 45 _ _ rfl ⟨w3.heap.size, 0, none⟩ rfl (.agg (nC n2 s2 b2)) rfl _ (store_num Q4.out.a) ?_; have H5 := Lib.hid (H4.out.row (q := w3.heap.size) (cs := nC n2 s2 b2) (Nat.ne_of_lt (blk_lt H3.out.a)) Q4.out.lo); have Q5 := Lib.hid (Q4.out.put (n' := n2) (s' := s2) (b' := b2)); generalize (w3.alloc (.cells (nC 0 0 false) 45)).setRow w3.heap.size (nC n2 s2 b2) = W5 at H5 Q5 ⊢))
          go_ret2
          exact ⟨rfl, R7.out.bl⟩
        | true =>
          have hD0 : D = -1 := by
            rw [← HD.out]
            exact Int.sign_eq_neg_one_of_neg (by unfold sg; simp only [if_true]; omega)
          subst hD0
          clear h0
          go_wp2_with (first | (go_at_call 40; refine (ZR.out w6.heap.size _ R7.out.a.dig).mono ?_; rintro e w8 ⟨rfl, rfl⟩) | (rw [zero45]; refine wpList_storeV rfl 45 _ _ rfl ⟨w6.heap.size, 0, none⟩ rfl (.agg (nC N Z true)) rfl _ (store_num R6.out.a) ?_; have R7 := Lib.hid (R6.out.put (n' := N) (s' := Z) (b' := true)); generalize (w6.alloc (.cells (nC 0 0 false) 45)).setRow w6.heap.size (nC N Z true) = W7 at R7 ⊢; have c7 := R7.out.a.sign) | (go_at_call 39; refine (FN.out _).mono ?_; rintro e w6 ⟨rfl, hb6⟩; have R6 := Lib.hid (NwI.new (w := w) (H5.out.bl.trans (hb6.mono H5.out.bl.size))); clear hb6) | refine wpList_loadV rfl 45 _ rfl ⟨w1.heap.size, 0, none⟩ rfl _ (load_num H5.out.a) ?_ | refine wpList_loadV rfl 45 _ rfl ⟨w3.heap.size, 0, none⟩ rfl _ (load_num Q5.out.a) ?_ | (go_at_call 38; refine PA.out.mono ?_; rintro e w1 ⟨rfl, hb1⟩; have H1 := Lib.hid (NwI.new hb1); clear hb1 PA) | (rw [zero45]; refine wpList_storeV rfl 45 _ _ rfl ⟨w1.heap.size, 0, none⟩ rfl (.agg (nC n1 s1 b1)) rfl _ (store_num H1.out.a) ?_; have H2 := Lib.hid (H1.out.put (n' := n1) (s' := s1) (b' := b1)); generalize (w1.alloc (.cells (nC 0 0 false) 45)).setRow w1.heap.size (nC n1 s1 b1) = W2 at H2 ⊢) | (go_at_call 38; refine (PB.out _ (HE.out.below H2.out.bl)).mono ?_; rintro e w3 ⟨rfl, hb3⟩; have H3 := Lib.hid (H2.out.later hb3); have H4 := Lib.hid H3.out.more; have Q4 := Lib.hid (NwI.new H3.out.bl); clear hb3) | (rw [zero45]; refine wpList_storeV rfl 45 _ _ rfl ⟨w3.heap.size, 0, none⟩ rfl (.agg (nC n2 s2 b2)) rfl _ (store_num Q4.out.a) ?_; have H5 := Lib.hid (H4.out.row (q := w3.heap.size) (cs := nC n2 s2 b2) (Nat.ne_of_lt (blk_lt H3.out.a)) Q4.out.lo); have Q5 := Lib.hid (Q4.out.put (n' := n2) (s' := s2) (b' := b2)); generalize (w3.alloc (.cells (nC 0 0 false) 45)).setRow w3.heap.size (nC n2 s2 b2) = W5 at H5 Q5 ⊢))
          go_ret2
          exact ⟨rfl, R7.out.bl⟩

theorem compare_any2 (a b : ByteArray) (w : World) (h : Env w) (ha : a.size ≤ 1000) (hb : b.size ≤ 1000) :
    Calls Tryd.prog 10 #[.string a, .string b] w fun e w' => e = .returned (.tuple #[.int .i64 (if (okA a && okA b) = true then (difV a b).sign else 0), .int .i64 (if (okA a && okA b) = true then 0 else 2)]) ∧ Below w.heap.size w w' := by
  by_cases ho : (okA a && okA b) = true
  · have ho2 := ho
    rw [Bool.and_eq_true] at ho
    obtain ⟨a1, a2, a3, a4⟩ := parse_ok ho.1
    obtain ⟨b1, b2, b3, b4⟩ := parse_ok ho.2
    have hza : sT a ≤ zT a b := by unfold zT; omega
    have hzb : sT b ≤ zT a b := by unfold zT; omega
    have hz : zT a b ≤ 31 := by unfold zT; omega
    have ez : (max (sT a : Int) (sT b : Int)) = ((zT a b : Nat) : Int) := by unfold zT; omega
    obtain ⟨m1, m2⟩ := moved_up a1 hza (by omega)
    obtain ⟨m3, m4⟩ := moved_up b1 hzb (by omega)
    refine (compare_texts a b (plusN (parseB a) (!(parseB b)) (moved (parseN a) ((zT a b : Int) - (sT a : Int))) (moved (parseN b) ((zT a b : Int) - (sT b : Int)))) (zT a b) (plusB (parseB a) (!(parseB b)) (moved (parseN a) ((zT a b : Int) - (sT a : Int))) (moved (parseN b) ((zT a b : Int) - (sT b : Int)))) w h ha hb (fun _ _ wx => ?_) ?_).mono fun e w' ⟨he, hb⟩ => ⟨?_, hb⟩
    · rw [a2, b2]
      have := minus_any (parseN a) (parseN b) (sT a) (sT b) (parseB a) (parseB b) wx (lt128 a1) (lt128 b1) (by omega) (by omega) (by omega) (by omega) (by rw [ez, m1, m3]; exact big2 m2 m4)
      rw [ez] at this
      exact this
    · refine Nat.lt_of_le_of_lt (plusN_le _ _ _ _) ?_
      rw [m1, m3]
      exact big2 m2 m4
    · rw [he, sg_plus, sg_not, moved_sg a1 hza (by omega), moved_sg b1 hzb (by omega), a4, b4]
      rfl
  · refine (compare_texts a b 0 0 false w h ha hb (fun g1 g2 => absurd (show (okA a && okA b) = true by unfold okA; rw [g1, g2]; rfl) ho) (pow_pos _)).mono fun e w' ⟨he, hb⟩ => ⟨?_, hb⟩
    rw [he]
    unfold okA at ho ⊢
    rw [if_neg ho, if_neg ho, if_neg ho]

end Go.Proofs.YticbjhogdfpdkaaDoor
