/- rest. -/
import Derived.Test.YticbjhogdfpdkaaDoorZi
namespace Go.Proofs.YticbjhogdfpdkaaDoor
set_option maxRecDepth 8000
open Go.RowKit Go.Shelf

set_option maxRecDepth 100000 in
set_option maxHeartbeats 16000000 in
theorem rest_any (n m : Nat) (s t : Int) (b c : Bool) (w : World) (hn : n < 10 ^ 128) (hm : m < 10 ^ 128) (h1 : 0 ≤ s) (h2 : s ≤ 900) (h3 : 0 ≤ t) (h4 : t ≤ 900)
    (h0 : 0 < moved m (max s t - t)) :
    Calls Tryd.prog 58 #[.agg (nC n s b), .agg (nC m t c)] w fun e w' => e = .returned (.agg (nC (moved n (max s t - s) % moved m (max s t - t)) (max s t) b)) ∧ Below w.heap.size w w' := by
  have LV := Lib.hid fun wx => level_any n m s t b c wx hn hm h1 h2 h3 h4
  have HS := Lib.hid (PlI.start w n m s t b c)
  have hx1 := moved_lt hn (max s t - s)
  have hy1 := moved_lt hm (max s t - t)
  clear hn hm h1 h2 h3 h4
  obtain ⟨z, hz⟩ : ∃ z, max s t = z := ⟨_, rfl⟩
  rw [hz] at h0 LV hx1 hy1 ⊢
  obtain ⟨x, hx⟩ : ∃ N, moved n (z - s) = N := ⟨_, rfl⟩
  obtain ⟨y, hy⟩ : ∃ N, moved m (z - t) = N := ⟨_, rfl⟩
  rw [hx] at LV hx1 ⊢
  rw [hy] at h0 LV hy1 ⊢
  clear hx hy hz
  have QU := Lib.hid fun wx A B (ha : DigAt wx A x) (hb : DigAt wx B y) => quotient_any A B x y wx ha hb hx1 hy1 h0
  clear hx1 hy1 h0
  go_enter Tryd.func58, Tryd.ntmps58
  go_wp2_with (first
    | refine wpList_storeV rfl 45 _ _ rfl ⟨w.heap.size + 1 + 1, 0, none⟩ rfl (.agg (nC (x % y) z b)) rfl _ (store_num H7.out.r) ?_
    | refine wpList_loadV rfl 45 _ rfl ⟨w.heap.size, 0, none⟩ rfl _ (load_num H7.out.a) ?_
    | (refine wpList_storeV rfl 43 _ _ rfl ⟨w.heap.size, 0, none⟩ rfl (.agg (dC (x % y))) rfl _ (store_numdig H6.out.a) ?_; have H7 := Lib.hid (H6.out.seta (n' := x % y)); generalize w6.setCells w.heap.size 0 (dL (x % y)) = W7 at H7 ⊢)
    | (go_at_call 91; refine (QU.out _ _ _ H5.out.a.dig H5.out.b.dig).mono ?_; rintro e w6 ⟨rfl, hb6⟩; have H6 := Lib.hid (H5.out.later hb6); clear hb6)
    | (refine wpList_storeV rfl 45 _ _ rfl ⟨w.heap.size + 1, 0, none⟩ rfl (.agg (nC y z c)) rfl _ (store_num H4.out.b) ?_; have H5 := Lib.hid (H4.out.putb (m' := y) (t' := z) (c' := c)); generalize W4.setRow (w.heap.size + 1) (nC y z c) = W5 at H5 ⊢)
    | (refine wpList_storeV rfl 45 _ _ rfl ⟨w.heap.size, 0, none⟩ rfl (.agg (nC x z b)) rfl _ (store_num H3.out.a) ?_; have H4 := Lib.hid (H3.out.puta (n' := x) (s' := z) (b' := b)); generalize w3.setRow w.heap.size (nC x z b) = W4 at H4 ⊢)
    | refine wpList_loadV rfl 45 _ rfl ⟨w.heap.size + 1, 0, none⟩ rfl _ (load_num HS.out.b) ?_
    | (rw [zero45]; refine wpList_loadV rfl 45 _ rfl ⟨w.heap.size, 0, none⟩ rfl _ (load_num HS.out.a) ?_)
    | (go_at_call 84; refine (LV.out _).mono ?_; rintro e w3 ⟨rfl, hb3⟩; have H3 := Lib.hid (HS.out.later hb3); clear hb3))
  exact bodyPost_ret (ret_num rfl rfl H7.out.r.put) rfl ⟨rfl, below_row H7.out.bl (by omega)⟩

theorem sg_mod (b c : Bool) (n m : Nat) : sg b (n % m) = (sg b n).tmod (sg c m) := by
  have h : (n : Int) % (m : Int) = (n : Int).tmod (m : Int) := (Int.tmod_eq_emod_of_nonneg (by omega)).symm
  unfold sg
  cases b <;> cases c <;> simp [Int.neg_tmod, Int.tmod_neg, h]

end Go.Proofs.YticbjhogdfpdkaaDoor
