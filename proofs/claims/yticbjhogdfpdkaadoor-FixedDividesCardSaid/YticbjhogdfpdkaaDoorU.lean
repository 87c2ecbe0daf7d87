/- minus. -/
import Derived.Test.YticbjhogdfpdkaaDoorS
namespace Go.Proofs.YticbjhogdfpdkaaDoor
set_option maxRecDepth 8000
open Go.RowKit Go.Shelf

theorem nC_sign (n : Nat) (s : Int) (b c : Bool) : (nC n s b).setIfInBounds 129 (.bool c) = nC n s c :=
  nC_ext (by rw [Array.size_setIfInBounds, nC_size]) (fun i hi => by rw [Array.getElem?_setIfInBounds_ne (by omega), nC_dig n s b hi]) (by rw [Array.getElem?_setIfInBounds_ne (by omega), nC_scale]) (by rw [Array.getElem?_setIfInBounds_self_of_lt (by rw [nC_size]; omega)])

set_option maxRecDepth 100000 in
set_option maxHeartbeats 8000000 in
theorem minus_any (n m : Nat) (s t : Int) (b c : Bool) (w : World) (hn : n < 10 ^ 128) (hm : m < 10 ^ 128) (h1 : 0 ≤ s) (h2 : s ≤ 900) (h3 : 0 ≤ t) (h4 : t ≤ 900)
    (hs : moved n (max s t - s) + moved m (max s t - t) < 10 ^ 128) :
    Calls Tryd.prog 39 #[.agg (nC n s b), .agg (nC m t c)] w fun e w' => e = .returned (.agg (nC (plusN b (!c) (moved n (max s t - s)) (moved m (max s t - t))) (max s t) (plusB b (!c) (moved n (max s t - s)) (moved m (max s t - t))))) ∧ Below w.heap.size w w' := by
  have PL := Lib.hid fun wx => plus_any n m s t b (!c) wx hn hm h1 h2 h3 h4 hs
  have HS := Lib.hid (PlI.start w n m s t b c)
  have HT := Lib.hid (PlI.start w n m s t b (!c))
  have g1 := HS.out.b.sign
  have g2 := frozen_at HS.out.b 129
  rw [← zero45] at g1 g2
  clear hn hm h1 h2 h3 h4 hs
  obtain ⟨X, hX⟩ : ∃ N, plusN b (!c) (moved n (max s t - s)) (moved m (max s t - t)) = N := ⟨_, rfl⟩
  obtain ⟨Y, hY⟩ : ∃ N, plusB b (!c) (moved n (max s t - s)) (moved m (max s t - t)) = N := ⟨_, rfl⟩
  obtain ⟨z, hz⟩ : ∃ N, max s t = N := ⟨_, rfl⟩
  rw [hX, hY, hz] at PL ⊢
  clear hX hY hz
  go_enter Tryd.func39, Tryd.ntmps39
  go_wp2_with (first
    | refine wpList_storeV rfl 45 _ _ rfl ⟨w.heap.size + 1 + 1, 0, none⟩ rfl (.agg (nC X z Y)) rfl _ (store_num H3.out.r) ?_
    | refine wpList_loadV rfl 45 _ rfl ⟨w.heap.size + 1, 0, none⟩ rfl _ (load_num HT.out.b) ?_
    | (rw [zero45, nC_sign]; refine wpList_loadV rfl 45 _ rfl ⟨w.heap.size, 0, none⟩ rfl _ (load_num HT.out.a) ?_)
    | (go_at_call 45; refine (PL.out _).mono ?_; rintro e w3 ⟨rfl, hb3⟩; have H3 := Lib.hid (HT.out.later hb3); clear hb3))
  exact bodyPost_ret (ret_num rfl rfl H3.out.r.put) rfl ⟨rfl, below_row H3.out.bl (by omega)⟩

end Go.Proofs.YticbjhogdfpdkaaDoor
