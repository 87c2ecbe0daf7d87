/- between, Convert at two texts; awake. -/
import Derived.Test.YtnebjdjebnphnaaDoorEc
import Derived.Test.YtnebjdjebnphnaaDoorFa
namespace Go.Proofs.YtnebjdjebnphnaaDoor
set_option maxRecDepth 8000
open Go.RowKit Go.BigFrame

theorem between_any (n m : Int) (w : World) (h : m = 1 ∨ m = 2 ∨ m = 3) : Calls Tryd.prog 44 #[.int .i64 n, .int .i64 m] w fun e w' => e = .returned (.func (.func 53) #[] #[.pointer (some ⟨w.heap.size, 0, none⟩), .pointer (some ⟨w.heap.size + 1, 0, none⟩)]) ∧ w' = (w.alloc (.cells #[.int .i64 n] 3)).alloc (.cells #[codV m] 59) := by
  have CO := Lib.hid fun wx => codingOf_any m wx h
  obtain ⟨x, v, hc⟩ : ∃ x v, codV m = .iface x v := by
    rcases h with rfl | rfl | rfl <;> exact ⟨_, _, rfl⟩
  rw [hc] at CO ⊢
  clear h
  go_enter Tryd.func44, Tryd.ntmps44
  go_wp2_with (go_at_call 35; refine (CO.out _).mono ?_; rintro e w' ⟨rfl, rfl⟩)
  go_ret
  exact ⟨rfl, rfl⟩

theorem bw_box (w : World) (n : Int) (v : Value) : Boxed ((w.alloc (.cells #[.int .i64 n] 3)).alloc (.cells #[v] 59)) w.heap.size 3 (.int .i64 n) ∧ Boxed ((w.alloc (.cells #[.int .i64 n] 3)).alloc (.cells #[v] 59)) (w.heap.size + 1) 59 v ∧ Below w.heap.size w ((w.alloc (.cells #[.int .i64 n] 3)).alloc (.cells #[v] 59)) := by
  refine ⟨(Boxed.new w 3 _).alloc _, ?_, ((Below.refl _ _).alloc (Nat.le_refl _) _).alloc (by simp) _⟩
  have := Boxed.new (w.alloc (.cells #[.int .i64 n] 3)) 59 v
  rwa [World.size_alloc] at this

set_option maxRecDepth 100000 in
set_option maxHeartbeats 4000000 in
theorem convert1 (w : World) (h : Env w) : Calls Tryd.prog 29 #[.int .i64 2, .int .i64 3, .string ⟨#[228]⟩] w fun e w' => e = .returned (.tuple #[.string ⟨#[195, 164]⟩, .int .i64 0, .int .i64 0]) ∧ Below w.heap.size w w' := by
  have IS := Lib.hid fun x => isSet_any x w
  have BW := Lib.hid (between_any 2 3 w (by omega))
  obtain ⟨b1, b2, b3⟩ := bw_box w 2 (codV 3)
  have B3 := Lib.hid b3
  have B1 := Lib.hid (between1 _ _ _ (h.below b3) b1 b2)
  clear b1 b2 b3 h
  go_enter Tryd.func29, Tryd.ntmps29
  go_wp2_with (first
    | (go_at_call 34; refine (IS.out _).mono ?_; rintro e w1 ⟨rfl, rfl⟩)
    | (go_at_call 44; refine BW.out.mono ?_; rintro e w1 ⟨rfl, rfl⟩)
    | (go_at_call 53; refine B1.out.mono ?_; rintro e w1 ⟨rfl, hb⟩; have HB := Lib.hid hb; clear hb))
  go_ret3
  exact ⟨rfl, B3.out.trans (HB.out.mono B3.out.size)⟩

set_option maxRecDepth 100000 in
set_option maxHeartbeats 4000000 in
theorem convert2 (w : World) (h : Env w) : Calls Tryd.prog 29 #[.int .i64 3, .int .i64 1, .string ⟨#[97, 195, 164]⟩] w fun e w' => e = .returned (.tuple #[.string ⟨#[]⟩, .int .i64 1, .int .i64 7]) ∧ Below w.heap.size w w' := by
  have IS := Lib.hid fun x => isSet_any x w
  have BW := Lib.hid (between_any 3 1 w (by omega))
  obtain ⟨b1, b2, b3⟩ := bw_box w 3 (codV 1)
  have B3 := Lib.hid b3
  have B1 := Lib.hid (between2 _ _ _ (h.below b3) b1 b2)
  clear b1 b2 b3 h
  go_enter Tryd.func29, Tryd.ntmps29
  go_wp2_with (first
    | (go_at_call 34; refine (IS.out _).mono ?_; rintro e w1 ⟨rfl, rfl⟩)
    | (go_at_call 44; refine BW.out.mono ?_; rintro e w1 ⟨rfl, rfl⟩)
    | (go_at_call 53; refine B1.out.mono ?_; rintro e w1 ⟨rfl, hb⟩; have HB := Lib.hid hb; clear hb))
  go_ret3
  exact ⟨rfl, B3.out.trans (HB.out.mono B3.out.size)⟩

theorem ints_one (w : World) (x : Int) {W : World} (h : W.heap[w.heap.size]? = some (.cells #[.int .i64 x] 3 (0, 0))) : IntRow W (some ⟨w.heap.size, 0, none⟩) [x] :=
  .inr ⟨_, _, rfl, (Array.getElem?_eq_some_iff.1 h).1, fun i hi => by
    have : i = 0 := by simp at hi; omega
    subst this
    exact cells_at h 0⟩

set_option maxRecDepth 100000 in
set_option maxHeartbeats 8000000 in
theorem awake_any (w : World) (h : Env w) : Calls Tryd.prog 7 #[] w fun e w' => e = .returned (.bool true) ∧ Below w.heap.size w w' := by
  have HE := Lib.hid fun wx (hx : Below w.heap.size w wx) => h.below hx
  have C1 := Lib.hid (convert1 w h)
  have C2 := Lib.hid fun wx (hx : Below w.heap.size w wx) => convert2 wx (h.below hx)
  have CH : Hid (∀ wx, Calls Tryd.prog 16 #[.agg #[.int .i64 2, .slice (some ⟨wx.heap.size, 0, none⟩) 1 1], .agg #[.int .i64 5, .slice (some ⟨wx.heap.size + 1, 0, none⟩) 1 1]] ((wx.alloc (.cells #[.int .i64 3] 3)).alloc (.cells #[.int .i64 3] 3)) fun e w' => e = .returned (.tuple #[.int .i64 3, .int .i64 0]) ∧ Below wx.heap.size wx w') := Lib.hid fun wx => by
    have e1 : ((wx.alloc (.cells #[.int .i64 3] 3)).alloc (.cells #[.int .i64 3] 3)).heap[wx.heap.size]? = some (.cells #[.int .i64 3] 3) := (Below.heap_alloc _ _ _ (by simp)).trans (World.alloc_heap_new wx _)
    have e2 := World.alloc_heap_new (wx.alloc (.cells #[.int .i64 3] 3)) (.cells #[.int .i64 3] 3)
    have r2 := ints_one (wx.alloc (.cells #[.int .i64 3] 3)) 3 e2
    rw [World.size_alloc] at r2
    refine (choose_any 2 5 (some ⟨wx.heap.size, 0, none⟩) (some ⟨wx.heap.size + 1, 0, none⟩) 1 1 [3] [3] _ (ints_one wx 3 e1) r2 (by decide) (by decide) (by decide) (by decide)).mono ?_
    rintro e w' ⟨he, hb⟩
    have hb0 : Below wx.heap.size wx ((wx.alloc (.cells #[.int .i64 3] 3)).alloc (.cells #[.int .i64 3] 3)) := ((Below.refl _ _).alloc (Nat.le_refl _) _).alloc (by simp) _
    refine ⟨?_, hb0.trans (hb.mono hb0.size)⟩
    rw [ChP] at he
    rw [he, show chN 2 [3] 5 [3] = 3 by decide, show chE 2 [3] 5 [3] = 0 by decide]
  clear h
  go_enter Tryd.func7, Tryd.ntmps7
  go_wp2_with (first
    | (go_at_call 29; refine C1.out.mono ?_; rintro e w1 ⟨rfl, hb⟩; have HB := Lib.hid hb; clear hb C1)
    | (go_at_call 29; refine (C2.out _ HB.out).mono ?_; rintro e w2 ⟨rfl, hb⟩; replace HB := Lib.hid (BB_trans HB.out hb); clear hb)
    | (go_at_call 16; refine (CH.out _).mono ?_; rintro e w3 ⟨rfl, hb⟩; replace HB := Lib.hid (BB_trans HB.out hb); clear hb))
  go_ret
  exact ⟨rfl, HB.out⟩

end Go.Proofs.YtnebjdjebnphnaaDoor
