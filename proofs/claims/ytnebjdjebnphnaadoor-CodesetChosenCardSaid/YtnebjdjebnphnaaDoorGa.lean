/- The law CodesetParses. -/
import Derived.Test.YtnebjdjebnphnaaDoorEd
namespace Go.Proofs.YtnebjdjebnphnaaDoor
set_option maxRecDepth 8000
open Go.RowKit Go.BigFrame

set_option maxRecDepth 100000 in
set_option maxHeartbeats 4000000 in
/-- long of one text. -/
theorem long_one (s : ByteArray) (b cap : Nat) (w : World) (hc : w.cell? ⟨b, 0, none⟩ = some (.string s)) :
    Calls Tryd.prog 6 #[.slice (some ⟨b, 0, none⟩) 1 cap] w fun e w' => e = .returned (.bool (decide (2000 < s.size))) ∧ w = w' := by
  by_cases hl : 2000 < s.size
  · have e1 : (2000 : Int) < (s.size : Int) := by omega
    have e2 : decide ((2000 : Int) < (s.size : Int)) = true := decide_eq_true e1
    rw [decide_eq_true hl]
    clear hl
    go_enter Tryd.func6, Tryd.ntmps6
    go_wp2_with fail
    go_loopw [2, 7] (fun r i wr => r = .bool false ∧ wr = w ∧ i = .int .i64 0) (fun _ _ _ => 0)
    case atStart => exact ⟨rfl, rfl, rfl⟩
    case round =>
      obtain ⟨rfl, rfl, rfl⟩ := hrel
      go_wp2_with fail
      go_ret
      exact ⟨rfl, rfl⟩
  · have e1 : ¬ (2000 : Int) < (s.size : Int) := by omega
    have e2 : decide ((2000 : Int) < (s.size : Int)) = false := decide_eq_false e1
    rw [decide_eq_false hl]
    clear hl
    go_enter Tryd.func6, Tryd.ntmps6
    go_wp2_with fail
    go_loopw [2, 7] (fun r i wr => r = .bool false ∧ wr = w ∧ (i = .int .i64 0 ∨ i = .int .i64 1)) (fun _ i _ => 1 - (intOf i).toNat)
    case atStart => exact ⟨rfl, rfl, .inl rfl⟩
    case round =>
      obtain ⟨rfl, rfl, rfl | rfl⟩ := hrel
      · go_wp2_with fail
        go_roundw
        case rel => exact ⟨by trivial, by trivial, .inr (by go_num)⟩
        case measure => simp [intOf]
      · go_wp2_with fail
        go_ret
        exact ⟨rfl, rfl⟩

theorem prsL_len (t : ByteArray) : (prsL t).length ≤ 5 := by
  unfold prsL
  split
  · rename_i h
    unfold prsOk validC at h
    simp only [Bool.and_eq_true, decide_eq_true_eq] at h
    exact h.2.1.2
  · simp
/-- What Parse returns, with its parts named. -/
def PrP (w : World) (n er : Int) (l : List Int) (e : Ending) (w' : World) : Prop :=
  ∃ ao cap, e = .returned (.tuple #[.agg #[.int .i64 n, .slice ao l.length cap], .int .i64 er]) ∧ l.length ≤ cap ∧ IntRow w' ao l ∧ Below w.heap.size w w'

set_option maxRecDepth 100000 in
set_option maxHeartbeats 8000000 in
theorem parses_law (t : ByteArray) (w : World) (h : Env w) :
    Calls Tryd.prog 5 #[.string t] w fun e w' => e = .returned (.bool true) ∧ Below w.heap.size w w' := by
  have HE := Lib.hid fun wx (hx : Below w.heap.size w wx) => h.below hx
  have AW := Lib.hid fun wx (hx : Below w.heap.size w wx) => awake_any wx (h.below hx)
  have LO := Lib.hid fun b cap wx hc => long_one t b cap wx hc
  clear h
  by_cases hl : 2000 < t.size
  · rw [decide_eq_true hl] at LO
    have HA : ∀ o, Hid (Below w.heap.size w (w.alloc o)) := fun o => Lib.hid ((Below.refl _ _).alloc (Nat.le_refl _) _)
    clear hl
    go_enter Tryd.func5, Tryd.ntmps5
    go_wp2_with (first
      | (go_at_call 6; refine (LO.out _ _ _ (cells_at (World.alloc_heap_new _ _) 0)).mono ?_; rintro e w1 ⟨rfl, rfl⟩)
      | (go_at_call 7; refine (AW.out _ (HA _).out).mono ?_; rintro e w1 ⟨rfl, hb⟩; have HB := Lib.hid ((HA _).out.trans (hb.mono (HA _).out.size)); clear hb))
    go_ret
    exact ⟨rfl, HB.out⟩
  · rw [decide_eq_false hl] at LO
    have hs : t.size ≤ 2000 := by omega
    have PA : Hid (∀ wx, Env wx → Calls Tryd.prog 24 #[.string t] wx (PrP wx (prsN t) (prsE t) (prsL t))) := Lib.hid fun wx hx => parse_any t wx hx hs
    have PB : Hid (∀ wx, Env wx → Calls Tryd.prog 26 #[.string t] wx (PrP wx (prsN t) (prsE t) (prsL t))) := Lib.hid fun wx hx => rparse_any t wx hx hs
    have SA : Hid (∀ wx, Env wx → Calls Tryd.prog 27 #[.string t] wx fun e w' => e = .returned (.tuple #[.int .i64 (setN t), .int .i64 (setE t)]) ∧ wx = w') := Lib.hid fun wx hx => set_any t wx hx.names
    have SB : Hid (∀ wx, Calls Tryd.prog 28 #[.string t] wx fun e w' => e = .returned (.tuple #[.int .i64 (setN t), .int .i64 (setE t)]) ∧ wx = w') := Lib.hid fun wx => rset_any t wx
    have HL : Hid ((prsL t).length ≤ 5) := Lib.hid (prsL_len t)
    obtain ⟨n, hn⟩ : ∃ n, prsN t = n := ⟨_, rfl⟩
    obtain ⟨er, her⟩ : ∃ n, prsE t = n := ⟨_, rfl⟩
    obtain ⟨l, hll⟩ : ∃ n, prsL t = n := ⟨_, rfl⟩
    obtain ⟨sn, hsn⟩ : ∃ n, setN t = n := ⟨_, rfl⟩
    obtain ⟨se, hse⟩ : ∃ n, setE t = n := ⟨_, rfl⟩
    rw [hn, her, hll] at PA PB
    rw [hsn, hse] at SA SB
    rw [hll] at HL
    have HA : ∀ o, Hid (Below w.heap.size w (w.alloc o)) := fun o => Lib.hid ((Below.refl _ _).alloc (Nat.le_refl _) _)
    clear hl hs hn her hll hsn hse
    go_enter Tryd.func5, Tryd.ntmps5
    go_wp2_with (first
      | (go_at_call 6; refine (LO.out _ _ _ (cells_at (World.alloc_heap_new _ _) 0)).mono ?_; rintro e w1 ⟨rfl, rfl⟩)
      | (go_at_call 24; refine (PA.out _ (HE.out _ (HA _).out)).mono ?_; rintro e w1 ⟨ao1, cap1, rfl, _, hrow, hb⟩; have HB1 := Lib.hid ((HA _).out.trans (hb.mono (HA _).out.size)); have HR1 := Lib.hid hrow; clear hb hrow))
    have hb1 : Below w.heap.size w (w1.alloc (.cells #[.int .i64 n, .slice ao1 l.length cap1] 36)) := HB1.out.alloc HB1.out.size _
    refine (PB.out _ (HE.out _ hb1)).mono ?_
    rintro e w2 ⟨ao2, cap2, rfl, _, hrow2, hb⟩
    have hblk := (hb.block _ (by simp)).trans (World.alloc_heap_new w1 (.cells #[.int .i64 n, .slice ao1 l.length cap1] 36))
    have hb2 : Below w.heap.size w w2 := hb1.trans (hb.mono hb1.size)
    have hbx : ∀ o, Below w.heap.size w (w2.alloc o) := fun o => hb2.alloc hb2.size _
    have q0 : ∀ o, (w2.alloc o).cell? ⟨w1.heap.size, 0, none⟩ = some (.int .i64 n) := fun o => cells_at ((Below.heap_alloc _ _ _ (blk_lt hblk)).trans hblk) 0
    have q1 : ∀ o, (w2.alloc o).cell? ⟨w1.heap.size, 1, none⟩ = some (.slice ao1 l.length cap1) := fun o => cells_at ((Below.heap_alloc _ _ _ (blk_lt hblk)).trans hblk) 1
    have HR1' : Hid (∀ o, IntRow (w2.alloc o) ao1 l) := Lib.hid fun o => ((HR1.out.below ((Below.refl _ _).alloc (Nat.le_refl _) _)).below hb).below ((Below.refl _ _).alloc (Nat.le_refl _) _)
    have HR2' : Hid (∀ o, IntRow (w2.alloc o) ao2 l) := Lib.hid fun o => hrow2.below ((Below.refl _ _).alloc (Nat.le_refl _) _)
    have HBX := Lib.hid hbx
    have SC : Hid (∀ o, Calls Tryd.prog 25 #[.agg #[.int .i64 n, .slice ao1 l.length cap1], .agg #[.int .i64 n, .slice ao2 l.length cap2]] (w2.alloc o) fun e w' => e = .returned (.bool true) ∧ Below (w2.alloc o).heap.size (w2.alloc o) w') := Lib.hid fun o => sameC_eq n l ao1 ao2 cap1 cap2 _ (HR1'.out o) (HR2'.out o) (by have := HL.out; omega)
    clear hb hblk hrow2 hb2 hbx hb1
    go_wp2_with (first
      | (go_at_call 27; refine (SA.out _ (HE.out _ (HBX.out _))).mono ?_; rintro e w3 ⟨rfl, rfl⟩)
      | (go_at_call 28; refine (SB.out _).mono ?_; rintro e w3 ⟨rfl, rfl⟩)
      | (go_at_call 25; refine (SC.out _).mono ?_; rintro e w5 ⟨rfl, hb⟩; have HB5 := Lib.hid ((HBX.out _).trans (hb.mono (HBX.out _).size)); clear hb)
      | (go_at_call 7; refine (AW.out _ HB5.out).mono ?_; rintro e w6 ⟨rfl, hb⟩; have HB6 := Lib.hid (HB5.out.trans (hb.mono HB5.out.size)); clear hb))
    go_ret
    exact ⟨rfl, HB6.out⟩

end Go.Proofs.YtnebjdjebnphnaaDoor
