/- Rem. -/
import Derived.Test.YticbjhogdfpdkaaDoorXa
namespace Go.Proofs.YticbjhogdfpdkaaDoor
set_option maxRecDepth 8000
open Go.RowKit Go.Shelf

set_option maxRecDepth 100000 in
set_option maxHeartbeats 8000000 in
theorem rem_texts (a b : ByteArray) (N S : Nat) (B : Bool) (w : World) (h : Env w) (ha : a.size ≤ 1000) (hb : b.size ≤ 1000)
    (hF : okT a.data.toList = true → okT b.data.toList = true → parseN b ≠ 0 → ∀ wx, Calls Tryd.prog 58 #[.agg (nC (parseN a) (parseS a) (parseB a)), .agg (nC (parseN b) (parseS b) (parseB b))] wx fun e w' => e = .returned (.agg (nC N S B)) ∧ Below wx.heap.size wx w')
    (hN : N < 10 ^ 128) (h0 : parseN b < 10 ^ 128) :
    Calls Tryd.prog 20 #[.string a, .string b] w fun e w' => e = .returned (.tuple #[.string (divT (okT a.data.toList) (okT b.data.toList) true (decide (parseN b = 0)) (toldT B N S)), .int .i64 (divE (okT a.data.toList) (okT b.data.toList) true (decide (parseN b = 0)) (toldE N S))]) ∧ Below w.heap.size w w' := by
  have PA := Lib.hid (parse_any a w h ha)
  have PB := Lib.hid fun wx (he : Env wx) => parse_any b wx he hb
  have ZR := Lib.hid fun X wx (hd : DigAt wx X (parseN b)) => zero_any X (parseN b) wx hd h0
  have TO := Lib.hid fun wx => told_any N S B wx hN
  have HE := Lib.hid h
  have HF := Lib.hid hF
  clear h ha hb hN hF h0
  generalize okT a.data.toList = o1 at PA HF ⊢
  generalize okT b.data.toList = o2 at PB HF ⊢
  generalize parseN a = n1 at PA HF
  generalize parseN b = n2 at PB HF ZR ⊢
  generalize parseS a = s1 at PA HF
  generalize parseS b = s2 at PB HF
  generalize parseB a = b1 at PA HF
  generalize parseB b = b2 at PB HF
  generalize toldT B N S = T at TO ⊢
  generalize toldE N S = E at TO ⊢
  go_enter Tryd.func20, Tryd.ntmps20
  cases o1 with
  | false =>
    go_wp2_with (first | (go_at_call 40; refine (ZR.out w3.heap.size _ Q5.out.a.dig).mono ?_; rintro e wi ⟨rfl, rfl⟩) | (go_at_call 38; refine PA.out.mono ?_; rintro e w1 ⟨rfl, hb1⟩; have H1 := Lib.hid (NwI.new hb1); clear hb1 PA) | (rw [zero45]; refine wpList_storeV rfl 45 _ _ rfl ⟨w1.heap.size, 0, none⟩ rfl (.agg (nC n1 s1 b1)) rfl _ (store_num H1.out.a) ?_; have H2 := Lib.hid (H1.out.put (n' := n1) (s' := s1) (b' := b1)); generalize (w1.alloc (.cells (nC 0 0 false) 45)).setRow w1.heap.size (nC n1 s1 b1) = W2 at H2 ⊢) | (go_at_call 38; refine (PB.out _ (HE.out.below H2.out.bl)).mono ?_; rintro e w3 ⟨rfl, hb3⟩; have H3 := Lib.hid (H2.out.later hb3); have H4 := Lib.hid H3.out.more; have Q4 := Lib.hid (NwI.new H3.out.bl); clear hb3) | (rw [zero45]; refine wpList_storeV rfl 45 _ _ rfl ⟨w3.heap.size, 0, none⟩ rfl (.agg (nC n2 s2 b2)) rfl _ (store_num Q4.out.a) ?_; have H5 := Lib.hid (H4.out.row (q := w3.heap.size) (cs := nC n2 s2 b2) (Nat.ne_of_lt (blk_lt H3.out.a)) Q4.out.lo); have Q5 := Lib.hid (Q4.out.put (n' := n2) (s' := s2) (b' := b2)); generalize (w3.alloc (.cells (nC 0 0 false) 45)).setRow w3.heap.size (nC n2 s2 b2) = W5 at H5 Q5 ⊢))
    go_ret2
    exact ⟨rfl, H5.out.bl⟩
  | true =>
    cases o2 with
    | false =>
      go_wp2_with (first | (go_at_call 40; refine (ZR.out w3.heap.size _ Q5.out.a.dig).mono ?_; rintro e wi ⟨rfl, rfl⟩) | (go_at_call 38; refine PA.out.mono ?_; rintro e w1 ⟨rfl, hb1⟩; have H1 := Lib.hid (NwI.new hb1); clear hb1 PA) | (rw [zero45]; refine wpList_storeV rfl 45 _ _ rfl ⟨w1.heap.size, 0, none⟩ rfl (.agg (nC n1 s1 b1)) rfl _ (store_num H1.out.a) ?_; have H2 := Lib.hid (H1.out.put (n' := n1) (s' := s1) (b' := b1)); generalize (w1.alloc (.cells (nC 0 0 false) 45)).setRow w1.heap.size (nC n1 s1 b1) = W2 at H2 ⊢) | (go_at_call 38; refine (PB.out _ (HE.out.below H2.out.bl)).mono ?_; rintro e w3 ⟨rfl, hb3⟩; have H3 := Lib.hid (H2.out.later hb3); have H4 := Lib.hid H3.out.more; have Q4 := Lib.hid (NwI.new H3.out.bl); clear hb3) | (rw [zero45]; refine wpList_storeV rfl 45 _ _ rfl ⟨w3.heap.size, 0, none⟩ rfl (.agg (nC n2 s2 b2)) rfl _ (store_num Q4.out.a) ?_; have H5 := Lib.hid (H4.out.row (q := w3.heap.size) (cs := nC n2 s2 b2) (Nat.ne_of_lt (blk_lt H3.out.a)) Q4.out.lo); have Q5 := Lib.hid (Q4.out.put (n' := n2) (s' := s2) (b' := b2)); generalize (w3.alloc (.cells (nC 0 0 false) 45)).setRow w3.heap.size (nC n2 s2 b2) = W5 at H5 Q5 ⊢))
      go_ret2
      exact ⟨rfl, H5.out.bl⟩
    | true =>
      by_cases hz : n2 = 0
      · have e0 : decide (n2 = 0) = true := decide_eq_true hz
        rw [e0] at ZR ⊢
        clear hz e0
        go_wp2_with (first | (go_at_call 40; refine (ZR.out w3.heap.size _ Q5.out.a.dig).mono ?_; rintro e wi ⟨rfl, rfl⟩) | (go_at_call 38; refine PA.out.mono ?_; rintro e w1 ⟨rfl, hb1⟩; have H1 := Lib.hid (NwI.new hb1); clear hb1 PA) | (rw [zero45]; refine wpList_storeV rfl 45 _ _ rfl ⟨w1.heap.size, 0, none⟩ rfl (.agg (nC n1 s1 b1)) rfl _ (store_num H1.out.a) ?_; have H2 := Lib.hid (H1.out.put (n' := n1) (s' := s1) (b' := b1)); generalize (w1.alloc (.cells (nC 0 0 false) 45)).setRow w1.heap.size (nC n1 s1 b1) = W2 at H2 ⊢) | (go_at_call 38; refine (PB.out _ (HE.out.below H2.out.bl)).mono ?_; rintro e w3 ⟨rfl, hb3⟩; have H3 := Lib.hid (H2.out.later hb3); have H4 := Lib.hid H3.out.more; have Q4 := Lib.hid (NwI.new H3.out.bl); clear hb3) | (rw [zero45]; refine wpList_storeV rfl 45 _ _ rfl ⟨w3.heap.size, 0, none⟩ rfl (.agg (nC n2 s2 b2)) rfl _ (store_num Q4.out.a) ?_; have H5 := Lib.hid (H4.out.row (q := w3.heap.size) (cs := nC n2 s2 b2) (Nat.ne_of_lt (blk_lt H3.out.a)) Q4.out.lo); have Q5 := Lib.hid (Q4.out.put (n' := n2) (s' := s2) (b' := b2)); generalize (w3.alloc (.cells (nC 0 0 false) 45)).setRow w3.heap.size (nC n2 s2 b2) = W5 at H5 Q5 ⊢))
        go_ret2
        exact ⟨rfl, H5.out.bl⟩
      · have e0 : decide (n2 = 0) = false := decide_eq_false hz
        have BY := Lib.hid (HF.out rfl rfl hz)
        rw [e0] at ZR ⊢
        clear hz e0
        go_wp2_with (first | (go_at_call 58; refine (BY.out _).mono ?_; rintro e w6 ⟨rfl, hb6⟩; have H6 := Lib.hid (H5.out.bl.trans (hb6.mono H5.out.bl.size)); clear hb6) | (go_at_call 52; refine (TO.out _).mono ?_; rintro e w7 ⟨rfl, hb7⟩; have H7 := Lib.hid (H6.out.trans (hb7.mono H6.out.size)); clear hb7) | refine wpList_loadV rfl 45 _ rfl ⟨w1.heap.size, 0, none⟩ rfl _ (load_num H5.out.a) ?_ | refine wpList_loadV rfl 45 _ rfl ⟨w3.heap.size, 0, none⟩ rfl _ (load_num Q5.out.a) ?_ | (go_at_call 40; refine (ZR.out w3.heap.size _ Q5.out.a.dig).mono ?_; rintro e wi ⟨rfl, rfl⟩) | (go_at_call 38; refine PA.out.mono ?_; rintro e w1 ⟨rfl, hb1⟩; have H1 := Lib.hid (NwI.new hb1); clear hb1 PA) | (rw [zero45]; refine wpList_storeV rfl 45 _ _ rfl ⟨w1.heap.size, 0, none⟩ rfl (.agg (nC n1 s1 b1)) rfl _ (store_num H1.out.a) ?_; have H2 := Lib.hid (H1.out.put (n' := n1) (s' := s1) (b' := b1)); generalize (w1.alloc (.cells (nC 0 0 false) 45)).setRow w1.heap.size (nC n1 s1 b1) = W2 at H2 ⊢) | (go_at_call 38; refine (PB.out _ (HE.out.below H2.out.bl)).mono ?_; rintro e w3 ⟨rfl, hb3⟩; have H3 := Lib.hid (H2.out.later hb3); have H4 := Lib.hid H3.out.more; have Q4 := Lib.hid (NwI.new H3.out.bl); clear hb3) | (rw [zero45]; refine wpList_storeV rfl 45 _ _ rfl ⟨w3.heap.size, 0, none⟩ rfl (.agg (nC n2 s2 b2)) rfl _ (store_num Q4.out.a) ?_; have H5 := Lib.hid (H4.out.row (q := w3.heap.size) (cs := nC n2 s2 b2) (Nat.ne_of_lt (blk_lt H3.out.a)) Q4.out.lo); have Q5 := Lib.hid (Q4.out.put (n' := n2) (s' := s2) (b' := b2)); generalize (w3.alloc (.cells (nC 0 0 false) 45)).setRow w3.heap.size (nC n2 s2 b2) = W5 at H5 Q5 ⊢))
        go_ret2
        exact ⟨rfl, H7.out⟩

end Go.Proofs.YticbjhogdfpdkaaDoor
