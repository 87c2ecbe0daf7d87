/- The law's awake returns true: the document's two examples. -/
import Derived.Test.YtladjkkkhomngaaDoorY
namespace Go.Proofs.YtladjkkkhomngaaDoor
set_option maxRecDepth 8000
open Go.RowKit Go.Sort Go.BigFrame

theorem one_row {W : World} {g : Nat} {k v : Int} (h : W.heap[g]? = some (polO k v)) : RowAt W (some ⟨g, 0, none⟩) [⟨k, v⟩] := by
  refine .inr ⟨g, 0, rfl, (Array.getElem?_eq_some_iff.1 h).1, fun i hi => ?_⟩
  simp only [List.length_cons, List.length_nil] at hi
  obtain rfl : i = 0 := by omega
  exact ⟨pol_c0 h, pol_c1 h⟩
theorem one_set {k v : Int} (h : okP k v = true) : okS [⟨k, v⟩] = true :=
  okS_mk (fun p hp => by obtain rfl := List.mem_singleton.1 hp; exact h) (List.pairwise_singleton _ _)

theorem ex_clashes : clL [⟨5, 2⟩] = [(5, 6)] ∧ erS [⟨5, 2⟩] = 0 := by
  have h : okS [⟨5, 2⟩] = true := one_set (by decide)
  unfold clL erS
  rw [if_pos h, if_pos h]
  exact ⟨by decide, rfl⟩
theorem ex_agree : agS [⟨10, 50⟩] [⟨10, 20⟩] = [⟨10, 20⟩] ∧ agK [⟨10, 50⟩] [⟨10, 20⟩] = 0 ∧ agE [⟨10, 50⟩] [⟨10, 20⟩] = 0 := by
  have h1 : okS [⟨10, 50⟩] = true := one_set (by decide)
  have h2 : okS [⟨10, 20⟩] = true := one_set (by decide)
  have h3 : ¬ valOf [⟨10, 20⟩] 11 < valOf [⟨10, 50⟩] 11 := by decide
  have h4 : clTo (agL [⟨10, 50⟩] [⟨10, 20⟩] 6) 7 = [] := by decide
  have h0 : agC [⟨10, 50⟩] [⟨10, 20⟩] = 3 := by unfold agC; rw [if_pos ⟨h1, h2⟩, if_neg h3, if_pos h4]
  refine ⟨?_, ?_, ?_⟩
  · unfold agS
    rw [if_pos h0]
    rfl
  · unfold agK
    rw [if_neg (by omega), if_neg (by omega)]
  · unfold agE
    rw [if_neg (by omega), if_pos h0]

theorem ex15 (w : World) (hS : SortsAt w) : Calls Tryd.prog 31 #[.slice (some ⟨w.heap.size, 0, none⟩) 1 1] (w.alloc (polO 5 2)) fun e w' => ∃ b off cap, e = .returned (.tuple #[.slice (some ⟨b, off, none⟩) 1 cap, .int .i64 0]) ∧ b < w'.heap.size ∧ w'.cell? ⟨b, off, none⟩ = some (.int .i64 5) ∧ w'.cell? ⟨b, off + 1, none⟩ = some (.int .i64 6) ∧ Below w.heap.size w w' := by
  have hb : Below w.heap.size w (w.alloc (polO 5 2)) := (Below.refl _ _).alloc (Nat.le_refl _) _
  refine (clashes_all (some ⟨w.heap.size, 0, none⟩) 1 [⟨5, 2⟩] (w.alloc (polO 5 2)) (hS.below hb hS.pos) (one_row (heap_alloc_new _ _)) (by simp)).mono fun e w' h => ?_
  obtain ⟨ao, cap, he, hp, hb2⟩ := h
  rw [ex_clashes.1] at he hp
  rw [ex_clashes.2] at he
  rcases hp with h0 | ⟨b, off, rfl, hlt, hc⟩
  · cases h0
  · obtain ⟨c0, c1⟩ := hc 0 (by simp)
    exact ⟨b, off, cap, he, hlt, by simpa using c0, by simpa using c1, hb.trans (hb2.mono hb.size)⟩

theorem ex17 (w : World) (hS : SortsAt w) : Calls Tryd.prog 32 #[.slice (some ⟨w.heap.size, 0, none⟩) 1 1, .slice (some ⟨w.heap.size + 1, 0, none⟩) 1 1] ((w.alloc (polO 10 50)).alloc (polO 10 20)) fun e w' => ∃ b off cap, e = .returned (.tuple #[.slice (some ⟨b, off, none⟩) 1 cap, .int .i64 0, .int .i64 0]) ∧ w'.cell? ⟨b, off, none⟩ = some (.int .i64 10) ∧ w'.cell? ⟨b, off + 1, none⟩ = some (.int .i64 20) ∧ Below w.heap.size w w' := by
  have hb1 : Below w.heap.size w (w.alloc (polO 10 50)) := (Below.refl _ _).alloc (Nat.le_refl _) _
  have hb : Below w.heap.size w ((w.alloc (polO 10 50)).alloc (polO 10 20)) := hb1.alloc hb1.size _
  have h1 : RowAt ((w.alloc (polO 10 50)).alloc (polO 10 20)) (some ⟨w.heap.size, 0, none⟩) [⟨10, 50⟩] := (one_row (heap_alloc_new _ _)).below ((Below.refl _ _).alloc (Nat.le_refl _) _)
  have h2 : RowAt ((w.alloc (polO 10 50)).alloc (polO 10 20)) (some ⟨w.heap.size + 1, 0, none⟩) [⟨10, 20⟩] := one_row (by have := heap_alloc_new (w.alloc (polO 10 50)) (polO 10 20); rw [World.size_alloc] at this; exact this)
  refine (agree_all (some ⟨w.heap.size, 0, none⟩) (some ⟨w.heap.size + 1, 0, none⟩) 1 1 [⟨10, 50⟩] [⟨10, 20⟩] _ (hS.below hb hS.pos) h1 h2 (by simp) (by simp)).mono fun e w' h => ?_
  obtain ⟨ao, cap, he, hp, hb2⟩ := h
  rw [ex_agree.1] at he hp
  rw [ex_agree.2.1, ex_agree.2.2] at he
  rcases hp with h0 | ⟨b, off, rfl, hlt, hc⟩
  · cases h0
  · obtain ⟨c0, c1⟩ := hc 0 (by simp)
    exact ⟨b, off, cap, he, by simpa using c0, by simpa using c1, hb.trans (hb2.mono hb.size)⟩

set_option maxRecDepth 100000 in
set_option maxHeartbeats 4000000 in
theorem awake_any (w : World) (hS : SortsAt w) : Calls Tryd.prog 6 #[] w fun e w' => e = .returned (.bool true) ∧ Below w.heap.size w w' := by
  have A := Lib.hid (ex15 w hS)
  have B := Lib.hid fun wx (hx : Below w.heap.size w wx) => ex17 wx (hS.below hx hS.pos)
  clear hS
  have q1 : ∀ w, (binOp .eql 48 (.agg #[.int .i64 5, .int .i64 6]) (.agg #[.int .i64 5, .int .i64 6])).run Tryd.prog w = .ok (.bool true) w := fun _ => by kernel_rfl
  have q2 : ∀ w, (binOp .eql 24 (.agg #[.int .i64 10, .int .i64 20]) (.agg #[.int .i64 10, .int .i64 20])).run Tryd.prog w = .ok (.bool true) w := fun _ => by kernel_rfl
  go_enter Tryd.func6, Tryd.ntmps6
  go_wp2_with fail
  refine A.out.mono ?_
  rintro e w1 ⟨b1, off1, cap1, rfl, hlt1, c0, c1, hb1⟩
  have B1 := Lib.hid hb1
  have HC0 := Lib.hid c0
  have HC1 := Lib.hid c1
  have HLT := Lib.hid hlt1
  clear hb1 c0 c1 hlt1
  go_wp2_with fail
  refine (B.out _ B1.out).mono ?_
  rintro e w2 ⟨b2, off2, cap2, rfl, d0, d1, hb2⟩
  have B2 := Lib.hid hb2
  have c0 := (hb2.cell (p := ⟨b1, off1, none⟩) HLT.out).trans HC0.out
  have c1 := (hb2.cell (p := ⟨b1, off1 + 1, none⟩) HLT.out).trans HC1.out
  clear hb2
  go_wp2_with fail
  go_ret
  exact ⟨rfl, B1.out.trans (B2.out.mono B1.out.size)⟩

end Go.Proofs.YtladjkkkhomngaaDoor
