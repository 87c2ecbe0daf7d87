/- Add, Sub, Mul: two texts are read, reckoned, told. -/
import Derived.Test.YticbjhogdfpdkaaDoorZa
namespace Go.Proofs.YticbjhogdfpdkaaDoor
set_option maxRecDepth 8000
open Go.RowKit Go.Shelf

/-- A number in a new block. -/
structure NwI (w : World) (p n : Nat) (s : Int) (b : Bool) (W : World) : Prop where
  a : NumAt W p n s b
  lo : w.heap.size ≤ p
  bl : Below w.heap.size w W
theorem NwI.later {w : World} {p n : Nat} {s : Int} {b : Bool} {W W' : World} (h : NwI w p n s b W) (hb : Below W.heap.size W W') : NwI w p n s b W' :=
  ⟨h.a.below hb, h.lo, h.bl.trans (hb.mono h.bl.size)⟩
theorem NwI.new {w W : World} (hb : Below w.heap.size w W) : NwI w W.heap.size 0 0 false (W.alloc (.cells (nC 0 0 false) 45)) :=
  ⟨at_block _ _ _ rfl, hb.size, hb.alloc hb.size _⟩
theorem NwI.put {w : World} {p n n' : Nat} {s s' : Int} {b b' : Bool} {W : World} (h : NwI w p n s b W) : NwI w p n' s' b' (W.setRow p (nC n' s' b')) :=
  ⟨h.a.put, h.lo, below_row h.bl h.lo⟩
theorem NwI.row {w : World} {p q n : Nat} {s : Int} {b : Bool} {W : World} {cs : Array Value} (h : NwI w p n s b W) (hq : p ≠ q) (hl : w.heap.size ≤ q) : NwI w p n s b (W.setRow q cs) :=
  ⟨h.a.row hq, h.lo, below_row h.bl hl⟩
theorem NwI.more {w : World} {p n : Nat} {s : Int} {b : Bool} {W : World} (h : NwI w p n s b W) : NwI w p n s b (W.alloc (.cells (nC 0 0 false) 45)) :=
  ⟨old_block _ _ _ _ h.a, h.lo, h.bl.alloc h.bl.size _⟩

set_option maxRecDepth 100000 in
set_option maxHeartbeats 8000000 in
theorem reckoned45_any (a b : ByteArray) (N S : Nat) (B : Bool) (w : World) (h : Env w) (ha : a.size ≤ 1000) (hb : b.size ≤ 1000)
    (hF : okT a.data.toList = true → okT b.data.toList = true → ∀ wx, Calls Tryd.prog 45 #[.agg (nC (parseN a) (parseS a) (parseB a)), .agg (nC (parseN b) (parseS b) (parseB b))] wx fun e w' => e = .returned (.agg (nC N S B)) ∧ Below wx.heap.size wx w')
    (hN : N < 10 ^ 128) (hS : S ≤ 900) :
    Calls Tryd.prog 44 #[.string a, .string b, .func (Fn.func 45) #[] #[]] w fun e w' => e = .returned (.tuple #[.string (if (okT a.data.toList && okT b.data.toList) = true then nearT B N S else ⟨#[]⟩), .int .i64 (if (okT a.data.toList && okT b.data.toList) = true then nearE N S else 2)]) ∧ Below w.heap.size w w' := by
  have PA := Lib.hid (parse_any a w h ha)
  have PB := Lib.hid fun wx (he : Env wx) => parse_any b wx he hb
  have NE := Lib.hid fun wx => near_any N S B wx hN hS
  have HE := Lib.hid h
  have HF := Lib.hid hF
  clear h ha hb hN hS hF
  generalize okT a.data.toList = o1 at PA HF ⊢
  generalize okT b.data.toList = o2 at PB HF ⊢
  generalize parseN a = n1 at PA HF
  generalize parseN b = n2 at PB HF
  generalize parseS a = s1 at PA HF
  generalize parseS b = s2 at PB HF
  generalize parseB a = b1 at PA HF
  generalize parseB b = b2 at PB HF
  generalize nearT B N S = T at NE ⊢
  generalize nearE N S = E at NE ⊢
  go_enter Tryd.func44, Tryd.ntmps44
  cases o1 with
  | false =>
    go_wp2_with (first | (go_at_call 38; refine PA.out.mono ?_; rintro e w1 ⟨rfl, hb1⟩; have H1 := Lib.hid (NwI.new hb1); clear hb1 PA) | (rw [zero45]; refine wpList_storeV rfl 45 _ _ rfl ⟨w1.heap.size, 0, none⟩ rfl (.agg (nC n1 s1 b1)) rfl _ (store_num H1.out.a) ?_; have H2 := Lib.hid (H1.out.put (n' := n1) (s' := s1) (b' := b1)); generalize (w1.alloc (.cells (nC 0 0 false) 45)).setRow w1.heap.size (nC n1 s1 b1) = W2 at H2 ⊢) | (go_at_call 38; refine (PB.out _ (HE.out.below H2.out.bl)).mono ?_; rintro e w3 ⟨rfl, hb3⟩; have H3 := Lib.hid (H2.out.later hb3); have H4 := Lib.hid H3.out.more; have Q4 := Lib.hid (NwI.new H3.out.bl); clear hb3) | (rw [zero45]; refine wpList_storeV rfl 45 _ _ rfl ⟨w3.heap.size, 0, none⟩ rfl (.agg (nC n2 s2 b2)) rfl _ (store_num Q4.out.a) ?_; have H5 := Lib.hid (H4.out.row (q := w3.heap.size) (cs := nC n2 s2 b2) (Nat.ne_of_lt (blk_lt H3.out.a)) Q4.out.lo); have Q5 := Lib.hid (Q4.out.put (n' := n2) (s' := s2) (b' := b2)); generalize (w3.alloc (.cells (nC 0 0 false) 45)).setRow w3.heap.size (nC n2 s2 b2) = W5 at H5 Q5 ⊢))
    go_ret2
    exact ⟨rfl, H5.out.bl⟩
  | true =>
    cases o2 with
    | false =>
      go_wp2_with (first | (go_at_call 38; refine PA.out.mono ?_; rintro e w1 ⟨rfl, hb1⟩; have H1 := Lib.hid (NwI.new hb1); clear hb1 PA) | (rw [zero45]; refine wpList_storeV rfl 45 _ _ rfl ⟨w1.heap.size, 0, none⟩ rfl (.agg (nC n1 s1 b1)) rfl _ (store_num H1.out.a) ?_; have H2 := Lib.hid (H1.out.put (n' := n1) (s' := s1) (b' := b1)); generalize (w1.alloc (.cells (nC 0 0 false) 45)).setRow w1.heap.size (nC n1 s1 b1) = W2 at H2 ⊢) | (go_at_call 38; refine (PB.out _ (HE.out.below H2.out.bl)).mono ?_; rintro e w3 ⟨rfl, hb3⟩; have H3 := Lib.hid (H2.out.later hb3); have H4 := Lib.hid H3.out.more; have Q4 := Lib.hid (NwI.new H3.out.bl); clear hb3) | (rw [zero45]; refine wpList_storeV rfl 45 _ _ rfl ⟨w3.heap.size, 0, none⟩ rfl (.agg (nC n2 s2 b2)) rfl _ (store_num Q4.out.a) ?_; have H5 := Lib.hid (H4.out.row (q := w3.heap.size) (cs := nC n2 s2 b2) (Nat.ne_of_lt (blk_lt H3.out.a)) Q4.out.lo); have Q5 := Lib.hid (Q4.out.put (n' := n2) (s' := s2) (b' := b2)); generalize (w3.alloc (.cells (nC 0 0 false) 45)).setRow w3.heap.size (nC n2 s2 b2) = W5 at H5 Q5 ⊢))
      go_ret2
      exact ⟨rfl, H5.out.bl⟩
    | true =>
      have FN := Lib.hid (HF.out rfl rfl)
      go_wp2_with (first | refine wpList_loadV rfl 45 _ rfl ⟨w1.heap.size, 0, none⟩ rfl _ (load_num H5.out.a) ?_ | refine wpList_loadV rfl 45 _ rfl ⟨w3.heap.size, 0, none⟩ rfl _ (load_num Q5.out.a) ?_ | (go_at_call 45; refine (FN.out _).mono ?_; rintro e w6 ⟨rfl, hb6⟩; have H6 := Lib.hid (H5.out.bl.trans (hb6.mono H5.out.bl.size)); clear hb6) | (go_at_call 83; refine (NE.out _).mono ?_; rintro e w7 ⟨rfl, hb7⟩; have H7 := Lib.hid (H6.out.trans (hb7.mono H6.out.size)); clear hb7) | (go_at_call 38; refine PA.out.mono ?_; rintro e w1 ⟨rfl, hb1⟩; have H1 := Lib.hid (NwI.new hb1); clear hb1 PA) | (rw [zero45]; refine wpList_storeV rfl 45 _ _ rfl ⟨w1.heap.size, 0, none⟩ rfl (.agg (nC n1 s1 b1)) rfl _ (store_num H1.out.a) ?_; have H2 := Lib.hid (H1.out.put (n' := n1) (s' := s1) (b' := b1)); generalize (w1.alloc (.cells (nC 0 0 false) 45)).setRow w1.heap.size (nC n1 s1 b1) = W2 at H2 ⊢) | (go_at_call 38; refine (PB.out _ (HE.out.below H2.out.bl)).mono ?_; rintro e w3 ⟨rfl, hb3⟩; have H3 := Lib.hid (H2.out.later hb3); have H4 := Lib.hid H3.out.more; have Q4 := Lib.hid (NwI.new H3.out.bl); clear hb3) | (rw [zero45]; refine wpList_storeV rfl 45 _ _ rfl ⟨w3.heap.size, 0, none⟩ rfl (.agg (nC n2 s2 b2)) rfl _ (store_num Q4.out.a) ?_; have H5 := Lib.hid (H4.out.row (q := w3.heap.size) (cs := nC n2 s2 b2) (Nat.ne_of_lt (blk_lt H3.out.a)) Q4.out.lo); have Q5 := Lib.hid (Q4.out.put (n' := n2) (s' := s2) (b' := b2)); generalize (w3.alloc (.cells (nC 0 0 false) 45)).setRow w3.heap.size (nC n2 s2 b2) = W5 at H5 Q5 ⊢))
      go_ret2
      exact ⟨rfl, H7.out⟩

set_option maxRecDepth 100000 in
set_option maxHeartbeats 8000000 in
theorem reckoned39_any (a b : ByteArray) (N S : Nat) (B : Bool) (w : World) (h : Env w) (ha : a.size ≤ 1000) (hb : b.size ≤ 1000)
    (hF : okT a.data.toList = true → okT b.data.toList = true → ∀ wx, Calls Tryd.prog 39 #[.agg (nC (parseN a) (parseS a) (parseB a)), .agg (nC (parseN b) (parseS b) (parseB b))] wx fun e w' => e = .returned (.agg (nC N S B)) ∧ Below wx.heap.size wx w')
    (hN : N < 10 ^ 128) (hS : S ≤ 900) :
    Calls Tryd.prog 44 #[.string a, .string b, .func (Fn.func 39) #[] #[]] w fun e w' => e = .returned (.tuple #[.string (if (okT a.data.toList && okT b.data.toList) = true then nearT B N S else ⟨#[]⟩), .int .i64 (if (okT a.data.toList && okT b.data.toList) = true then nearE N S else 2)]) ∧ Below w.heap.size w w' := by
  have PA := Lib.hid (parse_any a w h ha)
  have PB := Lib.hid fun wx (he : Env wx) => parse_any b wx he hb
  have NE := Lib.hid fun wx => near_any N S B wx hN hS
  have HE := Lib.hid h
  have HF := Lib.hid hF
  clear h ha hb hN hS hF
  generalize okT a.data.toList = o1 at PA HF ⊢
  generalize okT b.data.toList = o2 at PB HF ⊢
  generalize parseN a = n1 at PA HF
  generalize parseN b = n2 at PB HF
  generalize parseS a = s1 at PA HF
  generalize parseS b = s2 at PB HF
  generalize parseB a = b1 at PA HF
  generalize parseB b = b2 at PB HF
  generalize nearT B N S = T at NE ⊢
  generalize nearE N S = E at NE ⊢
  go_enter Tryd.func44, Tryd.ntmps44
  cases o1 with
  | false =>
    go_wp2_with (first | (go_at_call 38; refine PA.out.mono ?_; rintro e w1 ⟨rfl, hb1⟩; have H1 := Lib.hid (NwI.new hb1); clear hb1 PA) | (rw [zero45]; refine wpList_storeV rfl 45 _ _ rfl ⟨w1.heap.size, 0, none⟩ rfl (.agg (nC n1 s1 b1)) rfl _ (store_num H1.out.a) ?_; have H2 := Lib.hid (H1.out.put (n' := n1) (s' := s1) (b' := b1)); generalize (w1.alloc (.cells (nC 0 0 false) 45)).setRow w1.heap.size (nC n1 s1 b1) = W2 at H2 ⊢) | (go_at_call 38; refine (PB.out _ (HE.out.below H2.out.bl)).mono ?_; rintro e w3 ⟨rfl, hb3⟩; have H3 := Lib.hid (H2.out.later hb3); have H4 := Lib.hid H3.out.more; have Q4 := Lib.hid (NwI.new H3.out.bl); clear hb3) | (rw [zero45]; refine wpList_storeV rfl 45 _ _ rfl ⟨w3.heap.size, 0, none⟩ rfl (.agg (nC n2 s2 b2)) rfl _ (store_num Q4.out.a) ?_; have H5 := Lib.hid (H4.out.row (q := w3.heap.size) (cs := nC n2 s2 b2) (Nat.ne_of_lt (blk_lt H3.out.a)) Q4.out.lo); have Q5 := Lib.hid (Q4.out.put (n' := n2) (s' := s2) (b' := b2)); generalize (w3.alloc (.cells (nC 0 0 false) 45)).setRow w3.heap.size (nC n2 s2 b2) = W5 at H5 Q5 ⊢))
    go_ret2
    exact ⟨rfl, H5.out.bl⟩
  | true =>
    cases o2 with
    | false =>
      go_wp2_with (first | (go_at_call 38; refine PA.out.mono ?_; rintro e w1 ⟨rfl, hb1⟩; have H1 := Lib.hid (NwI.new hb1); clear hb1 PA) | (rw [zero45]; refine wpList_storeV rfl 45 _ _ rfl ⟨w1.heap.size, 0, none⟩ rfl (.agg (nC n1 s1 b1)) rfl _ (store_num H1.out.a) ?_; have H2 := Lib.hid (H1.out.put (n' := n1) (s' := s1) (b' := b1)); generalize (w1.alloc (.cells (nC 0 0 false) 45)).setRow w1.heap.size (nC n1 s1 b1) = W2 at H2 ⊢) | (go_at_call 38; refine (PB.out _ (HE.out.below H2.out.bl)).mono ?_; rintro e w3 ⟨rfl, hb3⟩; have H3 := Lib.hid (H2.out.later hb3); have H4 := Lib.hid H3.out.more; have Q4 := Lib.hid (NwI.new H3.out.bl); clear hb3) | (rw [zero45]; refine wpList_storeV rfl 45 _ _ rfl ⟨w3.heap.size, 0, none⟩ rfl (.agg (nC n2 s2 b2)) rfl _ (store_num Q4.out.a) ?_; have H5 := Lib.hid (H4.out.row (q := w3.heap.size) (cs := nC n2 s2 b2) (Nat.ne_of_lt (blk_lt H3.out.a)) Q4.out.lo); have Q5 := Lib.hid (Q4.out.put (n' := n2) (s' := s2) (b' := b2)); generalize (w3.alloc (.cells (nC 0 0 false) 45)).setRow w3.heap.size (nC n2 s2 b2) = W5 at H5 Q5 ⊢))
      go_ret2
      exact ⟨rfl, H5.out.bl⟩
    | true =>
      have FN := Lib.hid (HF.out rfl rfl)
      go_wp2_with (first | refine wpList_loadV rfl 45 _ rfl ⟨w1.heap.size, 0, none⟩ rfl _ (load_num H5.out.a) ?_ | refine wpList_loadV rfl 45 _ rfl ⟨w3.heap.size, 0, none⟩ rfl _ (load_num Q5.out.a) ?_ | (go_at_call 39; refine (FN.out _).mono ?_; rintro e w6 ⟨rfl, hb6⟩; have H6 := Lib.hid (H5.out.bl.trans (hb6.mono H5.out.bl.size)); clear hb6) | (go_at_call 83; refine (NE.out _).mono ?_; rintro e w7 ⟨rfl, hb7⟩; have H7 := Lib.hid (H6.out.trans (hb7.mono H6.out.size)); clear hb7) | (go_at_call 38; refine PA.out.mono ?_; rintro e w1 ⟨rfl, hb1⟩; have H1 := Lib.hid (NwI.new hb1); clear hb1 PA) | (rw [zero45]; refine wpList_storeV rfl 45 _ _ rfl ⟨w1.heap.size, 0, none⟩ rfl (.agg (nC n1 s1 b1)) rfl _ (store_num H1.out.a) ?_; have H2 := Lib.hid (H1.out.put (n' := n1) (s' := s1) (b' := b1)); generalize (w1.alloc (.cells (nC 0 0 false) 45)).setRow w1.heap.size (nC n1 s1 b1) = W2 at H2 ⊢) | (go_at_call 38; refine (PB.out _ (HE.out.below H2.out.bl)).mono ?_; rintro e w3 ⟨rfl, hb3⟩; have H3 := Lib.hid (H2.out.later hb3); have H4 := Lib.hid H3.out.more; have Q4 := Lib.hid (NwI.new H3.out.bl); clear hb3) | (rw [zero45]; refine wpList_storeV rfl 45 _ _ rfl ⟨w3.heap.size, 0, none⟩ rfl (.agg (nC n2 s2 b2)) rfl _ (store_num Q4.out.a) ?_; have H5 := Lib.hid (H4.out.row (q := w3.heap.size) (cs := nC n2 s2 b2) (Nat.ne_of_lt (blk_lt H3.out.a)) Q4.out.lo); have Q5 := Lib.hid (Q4.out.put (n' := n2) (s' := s2) (b' := b2)); generalize (w3.alloc (.cells (nC 0 0 false) 45)).setRow w3.heap.size (nC n2 s2 b2) = W5 at H5 Q5 ⊢))
      go_ret2
      exact ⟨rfl, H7.out⟩

set_option maxRecDepth 100000 in
set_option maxHeartbeats 8000000 in
theorem reckoned47_any (a b : ByteArray) (N S : Nat) (B : Bool) (w : World) (h : Env w) (ha : a.size ≤ 1000) (hb : b.size ≤ 1000)
    (hF : okT a.data.toList = true → okT b.data.toList = true → ∀ wx, Calls Tryd.prog 47 #[.agg (nC (parseN a) (parseS a) (parseB a)), .agg (nC (parseN b) (parseS b) (parseB b))] wx fun e w' => e = .returned (.agg (nC N S B)) ∧ Below wx.heap.size wx w')
    (hN : N < 10 ^ 128) (hS : S ≤ 900) :
    Calls Tryd.prog 44 #[.string a, .string b, .func (Fn.func 47) #[] #[]] w fun e w' => e = .returned (.tuple #[.string (if (okT a.data.toList && okT b.data.toList) = true then nearT B N S else ⟨#[]⟩), .int .i64 (if (okT a.data.toList && okT b.data.toList) = true then nearE N S else 2)]) ∧ Below w.heap.size w w' := by
  have PA := Lib.hid (parse_any a w h ha)
  have PB := Lib.hid fun wx (he : Env wx) => parse_any b wx he hb
  have NE := Lib.hid fun wx => near_any N S B wx hN hS
  have HE := Lib.hid h
  have HF := Lib.hid hF
  clear h ha hb hN hS hF
  generalize okT a.data.toList = o1 at PA HF ⊢
  generalize okT b.data.toList = o2 at PB HF ⊢
  generalize parseN a = n1 at PA HF
  generalize parseN b = n2 at PB HF
  generalize parseS a = s1 at PA HF
  generalize parseS b = s2 at PB HF
  generalize parseB a = b1 at PA HF
  generalize parseB b = b2 at PB HF
  generalize nearT B N S = T at NE ⊢
  generalize nearE N S = E at NE ⊢
  go_enter Tryd.func44, Tryd.ntmps44
  cases o1 with
  | false =>
    go_wp2_with (first | (go_at_call 38; refine PA.out.mono ?_; rintro e w1 ⟨rfl, hb1⟩; have H1 := Lib.hid (NwI.new hb1); clear hb1 PA) | (rw [zero45]; refine wpList_storeV rfl 45 _ _ rfl ⟨w1.heap.size, 0, none⟩ rfl (.agg (nC n1 s1 b1)) rfl _ (store_num H1.out.a) ?_; have H2 := Lib.hid (H1.out.put (n' := n1) (s' := s1) (b' := b1)); generalize (w1.alloc (.cells (nC 0 0 false) 45)).setRow w1.heap.size (nC n1 s1 b1) = W2 at H2 ⊢) | (go_at_call 38; refine (PB.out _ (HE.out.below H2.out.bl)).mono ?_; rintro e w3 ⟨rfl, hb3⟩; have H3 := Lib.hid (H2.out.later hb3); have H4 := Lib.hid H3.out.more; have Q4 := Lib.hid (NwI.new H3.out.bl); clear hb3) | (rw [zero45]; refine wpList_storeV rfl 45 _ _ rfl ⟨w3.heap.size, 0, none⟩ rfl (.agg (nC n2 s2 b2)) rfl _ (store_num Q4.out.a) ?_; have H5 := Lib.hid (H4.out.row (q := w3.heap.size) (cs := nC n2 s2 b2) (Nat.ne_of_lt (blk_lt H3.out.a)) Q4.out.lo); have Q5 := Lib.hid (Q4.out.put (n' := n2) (s' := s2) (b' := b2)); generalize (w3.alloc (.cells (nC 0 0 false) 45)).setRow w3.heap.size (nC n2 s2 b2) = W5 at H5 Q5 ⊢))
    go_ret2
    exact ⟨rfl, H5.out.bl⟩
  | true =>
    cases o2 with
    | false =>
      go_wp2_with (first | (go_at_call 38; refine PA.out.mono ?_; rintro e w1 ⟨rfl, hb1⟩; have H1 := Lib.hid (NwI.new hb1); clear hb1 PA) | (rw [zero45]; refine wpList_storeV rfl 45 _ _ rfl ⟨w1.heap.size, 0, none⟩ rfl (.agg (nC n1 s1 b1)) rfl _ (store_num H1.out.a) ?_; have H2 := Lib.hid (H1.out.put (n' := n1) (s' := s1) (b' := b1)); generalize (w1.alloc (.cells (nC 0 0 false) 45)).setRow w1.heap.size (nC n1 s1 b1) = W2 at H2 ⊢) | (go_at_call 38; refine (PB.out _ (HE.out.below H2.out.bl)).mono ?_; rintro e w3 ⟨rfl, hb3⟩; have H3 := Lib.hid (H2.out.later hb3); have H4 := Lib.hid H3.out.more; have Q4 := Lib.hid (NwI.new H3.out.bl); clear hb3) | (rw [zero45]; refine wpList_storeV rfl 45 _ _ rfl ⟨w3.heap.size, 0, none⟩ rfl (.agg (nC n2 s2 b2)) rfl _ (store_num Q4.out.a) ?_; have H5 := Lib.hid (H4.out.row (q := w3.heap.size) (cs := nC n2 s2 b2) (Nat.ne_of_lt (blk_lt H3.out.a)) Q4.out.lo); have Q5 := Lib.hid (Q4.out.put (n' := n2) (s' := s2) (b' := b2)); generalize (w3.alloc (.cells (nC 0 0 false) 45)).setRow w3.heap.size (nC n2 s2 b2) = W5 at H5 Q5 ⊢))
      go_ret2
      exact ⟨rfl, H5.out.bl⟩
    | true =>
      have FN := Lib.hid (HF.out rfl rfl)
      go_wp2_with (first | refine wpList_loadV rfl 45 _ rfl ⟨w1.heap.size, 0, none⟩ rfl _ (load_num H5.out.a) ?_ | refine wpList_loadV rfl 45 _ rfl ⟨w3.heap.size, 0, none⟩ rfl _ (load_num Q5.out.a) ?_ | (go_at_call 47; refine (FN.out _).mono ?_; rintro e w6 ⟨rfl, hb6⟩; have H6 := Lib.hid (H5.out.bl.trans (hb6.mono H5.out.bl.size)); clear hb6) | (go_at_call 83; refine (NE.out _).mono ?_; rintro e w7 ⟨rfl, hb7⟩; have H7 := Lib.hid (H6.out.trans (hb7.mono H6.out.size)); clear hb7) | (go_at_call 38; refine PA.out.mono ?_; rintro e w1 ⟨rfl, hb1⟩; have H1 := Lib.hid (NwI.new hb1); clear hb1 PA) | (rw [zero45]; refine wpList_storeV rfl 45 _ _ rfl ⟨w1.heap.size, 0, none⟩ rfl (.agg (nC n1 s1 b1)) rfl _ (store_num H1.out.a) ?_; have H2 := Lib.hid (H1.out.put (n' := n1) (s' := s1) (b' := b1)); generalize (w1.alloc (.cells (nC 0 0 false) 45)).setRow w1.heap.size (nC n1 s1 b1) = W2 at H2 ⊢) | (go_at_call 38; refine (PB.out _ (HE.out.below H2.out.bl)).mono ?_; rintro e w3 ⟨rfl, hb3⟩; have H3 := Lib.hid (H2.out.later hb3); have H4 := Lib.hid H3.out.more; have Q4 := Lib.hid (NwI.new H3.out.bl); clear hb3) | (rw [zero45]; refine wpList_storeV rfl 45 _ _ rfl ⟨w3.heap.size, 0, none⟩ rfl (.agg (nC n2 s2 b2)) rfl _ (store_num Q4.out.a) ?_; have H5 := Lib.hid (H4.out.row (q := w3.heap.size) (cs := nC n2 s2 b2) (Nat.ne_of_lt (blk_lt H3.out.a)) Q4.out.lo); have Q5 := Lib.hid (Q4.out.put (n' := n2) (s' := s2) (b' := b2)); generalize (w3.alloc (.cells (nC 0 0 false) 45)).setRow w3.heap.size (nC n2 s2 b2) = W5 at H5 Q5 ⊢))
      go_ret2
      exact ⟨rfl, H7.out⟩

end Go.Proofs.YticbjhogdfpdkaaDoor
