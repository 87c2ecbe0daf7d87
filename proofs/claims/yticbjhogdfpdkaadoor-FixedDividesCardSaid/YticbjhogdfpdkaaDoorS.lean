/- plus, walked. -/
import Derived.Test.YticbjhogdfpdkaaDoorR
namespace Go.Proofs.YticbjhogdfpdkaaDoor
set_option maxRecDepth 8000
open Go.RowKit Go.Shelf

def plusN (b c : Bool) (n m : Nat) : Nat := if b = c then n + m else if n < m then m - n else n - m
def plusB (b c : Bool) (n m : Nat) : Bool := if b = c then b else if n < m then c else b

set_option maxRecDepth 100000 in
set_option maxHeartbeats 16000000 in
theorem plus_any (n m : Nat) (s t : Int) (b c : Bool) (w : World) (hn : n < 10 ^ 128) (hm : m < 10 ^ 128) (h1 : 0 ≤ s) (h2 : s ≤ 900) (h3 : 0 ≤ t) (h4 : t ≤ 900)
    (hs : moved n (max s t - s) + moved m (max s t - t) < 10 ^ 128) :
    Calls Tryd.prog 45 #[.agg (nC n s b), .agg (nC m t c)] w fun e w' => e = .returned (.agg (nC (plusN b c (moved n (max s t - s)) (moved m (max s t - t))) (max s t) (plusB b c (moved n (max s t - s)) (moved m (max s t - t))))) ∧ Below w.heap.size w w' := by
  have LV := Lib.hid fun wx => level_any n m s t b c wx hn hm h1 h2 h3 h4
  have HS := Lib.hid (PlI.start w n m s t b c)
  clear hn hm h1 h2 h3 h4
  obtain ⟨z, hz⟩ : ∃ z, max s t = z := ⟨_, rfl⟩
  rw [hz] at hs LV ⊢
  obtain ⟨x, hx⟩ : ∃ N, moved n (z - s) = N := ⟨_, rfl⟩
  obtain ⟨y, hy⟩ : ∃ N, moved m (z - t) = N := ⟨_, rfl⟩
  rw [hx, hy] at hs LV ⊢
  clear hx hy hz
  have SU := Lib.hid fun wx A B (ha : DigAt wx A x) (hb : DigAt wx B y) => sum_any A B x y wx ha hb hs
  have CM := Lib.hid fun wx A B (ha : DigAt wx A x) (hb : DigAt wx B y) => compare_any A B x y wx ha hb (by omega) (by omega)
  have D1 := Lib.hid fun wx A B (ha : DigAt wx A x) (hb : DigAt wx B y) (h : y ≤ x) => difference_any A B x y wx ha hb h (by omega)
  have D2 := Lib.hid fun wx A B (ha : DigAt wx A y) (hb : DigAt wx B x) (h : x ≤ y) => difference_any A B y x wx ha hb h (by omega)
  clear hs
  go_enter Tryd.func45, Tryd.ntmps45
  by_cases hbc : b = c
  · have eN : plusN b c x y = x + y := by unfold plusN; rw [if_pos hbc]
    have eB : plusB b c x y = b := by unfold plusB; rw [if_pos hbc]
    rw [eN, eB]
    clear eN eB
    subst hbc
    go_wp2_with (first
      | refine wpList_storeV rfl 45 _ _ rfl ⟨w.heap.size + 1 + 1, 0, none⟩ rfl (.agg (nC (x + y) z b)) rfl _ (store_num H7.out.r) ?_
      | refine wpList_loadV rfl 45 _ rfl ⟨w.heap.size, 0, none⟩ rfl _ (load_num H7.out.a) ?_
      | (refine wpList_storeV rfl 43 _ _ rfl ⟨w.heap.size, 0, none⟩ rfl (.agg (dC (x + y))) rfl _ (store_numdig H6.out.a) ?_; have H7 := Lib.hid (H6.out.seta (n' := x + y)); generalize w6.setCells w.heap.size 0 (dL (x + y)) = W7 at H7 ⊢)
      | (go_at_call 85; refine (SU.out _ _ _ H5.out.a.dig H5.out.b.dig).mono ?_; rintro e w6 ⟨rfl, hb6⟩; have H6 := Lib.hid (H5.out.later hb6); clear hb6)
      | (refine wpList_storeV rfl 45 _ _ rfl ⟨w.heap.size + 1, 0, none⟩ rfl (.agg (nC y z b)) rfl _ (store_num H4.out.b) ?_; have H5 := Lib.hid (H4.out.putb (m' := y) (t' := z) (c' := b)); generalize W4.setRow (w.heap.size + 1) (nC y z b) = W5 at H5 ⊢; have g1 := H5.out.a.sign; have g2 := H5.out.b.sign)
      | (refine wpList_storeV rfl 45 _ _ rfl ⟨w.heap.size, 0, none⟩ rfl (.agg (nC x z b)) rfl _ (store_num H3.out.a) ?_; have H4 := Lib.hid (H3.out.puta (n' := x) (s' := z) (b' := b)); generalize w3.setRow w.heap.size (nC x z b) = W4 at H4 ⊢)
      | refine wpList_loadV rfl 45 _ rfl ⟨w.heap.size + 1, 0, none⟩ rfl _ (load_num HS.out.b) ?_
      | (rw [zero45]; refine wpList_loadV rfl 45 _ rfl ⟨w.heap.size, 0, none⟩ rfl _ (load_num HS.out.a) ?_)
      | (go_at_call 84; refine (LV.out _).mono ?_; rintro e w3 ⟨rfl, hb3⟩; have H3 := Lib.hid (HS.out.later hb3); clear hb3))
    exact bodyPost_ret (ret_num rfl rfl H7.out.r.put) rfl ⟨rfl, below_row H7.out.bl (by omega)⟩
  · have hq : (b == c) = false := by simpa using hbc
    by_cases hlt : x < y
    · have eN : plusN b c x y = y - x := by unfold plusN; rw [if_neg hbc, if_pos hlt]
      have eB : plusB b c x y = c := by unfold plusB; rw [if_neg hbc, if_pos hlt]
      have HO : Hid (ord x y = -1) := Lib.hid (by unfold ord; rw [if_pos hlt])
      have HL : Hid (x ≤ y) := Lib.hid (by omega)
      rw [eN, eB]
      clear eN eB hlt
      go_wp2_with (first
        | refine wpList_storeV rfl 45 _ _ rfl ⟨w.heap.size + 1 + 1, 0, none⟩ rfl (.agg (nC (y - x) z c)) rfl _ (store_num H9.out.r) ?_
        | refine wpList_loadV rfl 45 _ rfl ⟨w.heap.size, 0, none⟩ rfl _ (load_num H9.out.a) ?_
        | (refine wpList_storeV rfl 43 _ _ rfl ⟨w.heap.size, 0, none⟩ rfl (.agg (dC (y - x))) rfl _ (store_numdig H8.out.a) ?_; have H9 := Lib.hid (H8.out.seta (n' := y - x)); generalize w8.setCells w.heap.size 0 (dL (y - x)) = W9 at H9 ⊢)
        | (go_at_call 87; refine (D2.out _ _ _ HB.out.a.dig HB.out.b.dig HL.out).mono ?_; rintro e w8 ⟨rfl, hb8⟩; have H8 := Lib.hid (HB.out.later hb8); clear hb8)
        | (refine wpList_storeV rfl 45 _ _ rfl ⟨w.heap.size + 1, 0, none⟩ rfl (.agg (nC x z b)) rfl _ (store_num HA.out.b) ?_; have HB := Lib.hid (HA.out.putb (m' := x) (t' := z) (c' := b)); generalize WA.setRow (w.heap.size + 1) (nC x z b) = WB at HB ⊢)
        | (refine wpList_storeV rfl 45 _ _ rfl ⟨w.heap.size, 0, none⟩ rfl (.agg (nC y z c)) rfl _ (store_num H6.out.a) ?_; have HA := Lib.hid (H6.out.puta (n' := y) (s' := z) (b' := c)); generalize w6.setRow w.heap.size (nC y z c) = WA at HA ⊢)
        | refine wpList_loadV rfl 45 _ rfl ⟨w.heap.size, 0, none⟩ rfl _ (load_num H6.out.a) ?_
        | refine wpList_loadV rfl 45 _ rfl ⟨w.heap.size + 1, 0, none⟩ rfl _ (load_num H6.out.b) ?_
        | (go_at_call 86; refine (CM.out _ _ _ H5.out.a.dig H5.out.b.dig).mono ?_; rintro e w6 ⟨rfl, hb6⟩; rw [HO.out]; have H6 := Lib.hid (H5.out.later hb6); clear hb6)
        | (refine wpList_storeV rfl 45 _ _ rfl ⟨w.heap.size + 1, 0, none⟩ rfl (.agg (nC y z c)) rfl _ (store_num H4.out.b) ?_; have H5 := Lib.hid (H4.out.putb (m' := y) (t' := z) (c' := c)); generalize W4.setRow (w.heap.size + 1) (nC y z c) = W5 at H5 ⊢; have g1 := H5.out.a.sign; have g2 := H5.out.b.sign)
        | (refine wpList_storeV rfl 45 _ _ rfl ⟨w.heap.size, 0, none⟩ rfl (.agg (nC x z b)) rfl _ (store_num H3.out.a) ?_; have H4 := Lib.hid (H3.out.puta (n' := x) (s' := z) (b' := b)); generalize w3.setRow w.heap.size (nC x z b) = W4 at H4 ⊢)
        | refine wpList_loadV rfl 45 _ rfl ⟨w.heap.size + 1, 0, none⟩ rfl _ (load_num HS.out.b) ?_
        | (rw [zero45]; refine wpList_loadV rfl 45 _ rfl ⟨w.heap.size, 0, none⟩ rfl _ (load_num HS.out.a) ?_)
        | (go_at_call 84; refine (LV.out _).mono ?_; rintro e w3 ⟨rfl, hb3⟩; have H3 := Lib.hid (HS.out.later hb3); clear hb3))
      exact bodyPost_ret (ret_num rfl rfl H9.out.r.put) rfl ⟨rfl, below_row H9.out.bl (by omega)⟩
    · have eN : plusN b c x y = x - y := by unfold plusN; rw [if_neg hbc, if_neg hlt]
      have eB : plusB b c x y = b := by unfold plusB; rw [if_neg hbc, if_neg hlt]
      obtain ⟨o, ho⟩ : ∃ o, ord x y = o := ⟨_, rfl⟩
      have o0 : ¬ o < 0 := by rw [← ho]; unfold ord; rw [if_neg hlt]; split <;> decide
      have HO := Lib.hid ho
      have HL : Hid (y ≤ x) := Lib.hid (by omega)
      rw [eN, eB]
      clear eN eB hlt ho
      go_wp2_with (first
        | refine wpList_storeV rfl 45 _ _ rfl ⟨w.heap.size + 1 + 1, 0, none⟩ rfl (.agg (nC (x - y) z b)) rfl _ (store_num H9.out.r) ?_
        | refine wpList_loadV rfl 45 _ rfl ⟨w.heap.size, 0, none⟩ rfl _ (load_num H9.out.a) ?_
        | (refine wpList_storeV rfl 43 _ _ rfl ⟨w.heap.size, 0, none⟩ rfl (.agg (dC (x - y))) rfl _ (store_numdig H8.out.a) ?_; have H9 := Lib.hid (H8.out.seta (n' := x - y)); generalize w8.setCells w.heap.size 0 (dL (x - y)) = W9 at H9 ⊢)
        | (go_at_call 87; refine (D1.out _ _ _ H6.out.a.dig H6.out.b.dig HL.out).mono ?_; rintro e w8 ⟨rfl, hb8⟩; have H8 := Lib.hid (H6.out.later hb8); clear hb8)
        | (go_at_call 86; refine (CM.out _ _ _ H5.out.a.dig H5.out.b.dig).mono ?_; rintro e w6 ⟨rfl, hb6⟩; rw [HO.out]; have H6 := Lib.hid (H5.out.later hb6); clear hb6)
        | (refine wpList_storeV rfl 45 _ _ rfl ⟨w.heap.size + 1, 0, none⟩ rfl (.agg (nC y z c)) rfl _ (store_num H4.out.b) ?_; have H5 := Lib.hid (H4.out.putb (m' := y) (t' := z) (c' := c)); generalize W4.setRow (w.heap.size + 1) (nC y z c) = W5 at H5 ⊢; have g1 := H5.out.a.sign; have g2 := H5.out.b.sign)
        | (refine wpList_storeV rfl 45 _ _ rfl ⟨w.heap.size, 0, none⟩ rfl (.agg (nC x z b)) rfl _ (store_num H3.out.a) ?_; have H4 := Lib.hid (H3.out.puta (n' := x) (s' := z) (b' := b)); generalize w3.setRow w.heap.size (nC x z b) = W4 at H4 ⊢)
        | refine wpList_loadV rfl 45 _ rfl ⟨w.heap.size + 1, 0, none⟩ rfl _ (load_num HS.out.b) ?_
        | (rw [zero45]; refine wpList_loadV rfl 45 _ rfl ⟨w.heap.size, 0, none⟩ rfl _ (load_num HS.out.a) ?_)
        | (go_at_call 84; refine (LV.out _).mono ?_; rintro e w3 ⟨rfl, hb3⟩; have H3 := Lib.hid (HS.out.later hb3); clear hb3))
      exact bodyPost_ret (ret_num rfl rfl H9.out.r.put) rfl ⟨rfl, below_row H9.out.bl (by omega)⟩

end Go.Proofs.YticbjhogdfpdkaaDoor
