/- The contracts of Cut and Sizes of both packages. -/
import Derived.Test.YtclhnpbjmefpeaaF
import Derived.Maps.AppendAt
namespace Go.Proofs.Ytclhnpbjmefpeaa
open Go.RowKit Go.BigFrame

/-- What Cut returns, and its error. -/
def cutL (id : Int) (b : ByteArray) (n : Int) : List Pc := if msgB id b = true then (if sizeB n = true then cutP id (fun _ => some n.toNat) 0 b else []) else []
def cutE (id : Int) (b : ByteArray) (n : Int) : Int := if msgB id b = true then (if sizeB n = true then 0 else 7) else 1
theorem cutL_len (id : Int) (b : ByteArray) (n : Int) : (cutL id b n).length ≤ b.size + 1 := by
  unfold cutL
  split
  · split
    · exact cut_len id _ b.size 0 b (Nat.le_refl _)
    · simp
  · simp

theorem msg_body {id : Int} {b : ByteArray} (h : msgB id b = true) : b.size ≤ 65536 := by
  simp only [msgB, Bool.and_eq_true, decide_eq_true_eq] at h
  exact h.2
theorem size_num {n : Int} (h : sizeB n = true) : ∃ m : Nat, n = m ∧ 1 ≤ m ∧ m ≤ 65536 := by
  simp only [sizeB, Bool.and_eq_true, decide_eq_true_eq] at h
  exact ⟨n.toNat, by omega, by omega, by omega⟩
theorem below_of_turns {W W' : World} (h : Turns [] W W') : Below W.heap.size W W' := ⟨h.os, h.tape, h.output, h.size, fun k hk => h.block k hk (by simp)⟩

set_option maxRecDepth 100000 in
set_option maxHeartbeats 2000000 in
theorem cut_any (id : Int) (b : ByteArray) (n : Int) (w : World) :
    Calls Try.prog 7 #[.int .i64 id, .string b, .int .i64 n] w (RowPost w (cutL id b n) (cutE id b n)) := by
  have hb : Below w.heap.size w (w.alloc (.cells #[.int .i64 n] 3)) := (Below.refl _ _).alloc (Nat.le_refl _) _
  have HB := Lib.hid hb
  have MA := Lib.hid fun wx => msg_any id b wx
  have SA := Lib.hid fun wx => size_any n wx
  have HX := Lib.hid (Boxed.new w 3 (.int .i64 n))
  clear hb
  cases hm : msgB id b
  · have H1 : Hid (cutL id b n = []) := Lib.hid (by unfold cutL; rw [if_neg (by rw [hm]; decide)])
    have H2 : Hid (cutE id b n = 1) := Lib.hid (by unfold cutE; rw [if_neg (by rw [hm]; decide)])
    rw [hm] at MA
    clear hm
    rw [H1.out, H2.out]
    go_enter Try.func7, Try.ntmps7
    go_wp2_with (go_at_call 21; refine (MA.out _).mono ?_; rintro e w2 ⟨rfl, rfl⟩)
    go_ret2
    exact RowPost.nil rfl rfl HB.out
  · cases hs : sizeB n
    · have H1 : Hid (cutL id b n = []) := Lib.hid (by unfold cutL; rw [if_pos hm, if_neg (by rw [hs]; decide)])
      have H2 : Hid (cutE id b n = 7) := Lib.hid (by unfold cutE; rw [if_pos hm, if_neg (by rw [hs]; decide)])
      rw [hm] at MA
      rw [hs] at SA
      clear hm hs
      rw [H1.out, H2.out]
      go_enter Try.func7, Try.ntmps7
      go_wp2_with (first | (go_at_call 21; refine (MA.out _).mono ?_; rintro e w2 ⟨rfl, rfl⟩) | (go_at_call 22; refine (SA.out _).mono ?_; rintro e w2 ⟨rfl, rfl⟩))
      go_ret2
      exact RowPost.nil rfl rfl HB.out
    · obtain ⟨m, rfl, h1, h2⟩ := size_num hs
      have H1 : Hid (cutL id b m = cutP id (fun _ => some m) 0 b) := Lib.hid (by unfold cutL; rw [if_pos hm, if_pos hs]; rfl)
      have H2 : Hid (cutE id b m = 0) := Lib.hid (by unfold cutE; rw [if_pos hm, if_pos hs])
      have GA := Lib.hid (gatheredCut_any id m w.heap.size h1 h2 b (msg_body hm) (w.alloc (.cells #[.int .i64 m] 3)) HX.out)
      rw [hm] at MA
      rw [hs] at SA
      clear hm hs h1 h2
      rw [H1.out, H2.out]
      go_enter Try.func7, Try.ntmps7
      go_wp2_with (first | (go_at_call 21; refine (MA.out _).mono ?_; rintro e w2 ⟨rfl, rfl⟩) | (go_at_call 22; refine (SA.out _).mono ?_; rintro e w2 ⟨rfl, rfl⟩) | (go_at_call 23; refine GA.out.mono ?_; rintro e w2 ⟨sv, rfl, ho, ht⟩; have HO := Lib.hid ho; have HT := Lib.hid ht; clear ho ht))
      go_ret2
      exact RowPost.own HO.out rfl (HB.out.trans ((below_of_turns HT.out).mono HB.out.size))

/-- What the reference has cut so far. -/
structure CtI (w wr : World) (pre : List Pc) (sv : Value) : Prop where
  own : wr.ownsRow w.heap.size 36 4 sv pre.length (pcCells pre)
  below : Below w.heap.size w wr
theorem CtI.later {w wr wx : World} {l : List Pc} {sv : Value} (h : CtI w wr l sv) (hb : Below wr.heap.size wr wx) : CtI w wx l sv :=
  ⟨ownsRow_below h.own hb, h.below.trans (hb.mono h.below.size)⟩
theorem CtI.grown {w wr wx : World} {l : List Pc} {sv sv' : Value} {i pl : Int} {m : Bool} {b : ByteArray} (h : CtI w wr l sv) (hg : wr.grownBy wx sv.ownBlock) (ho : wx.ownsRow w.heap.size 36 4 sv' (l.length + 1) (pcCells l ++ [.int .i64 i, .int .i64 pl, .bool m, .string b])) : CtI w wx (l ++ [⟨i, pl, m, b⟩]) sv' :=
  ⟨by rw [pcCells_snoc, List.length_append]; exact ho, below_grown h.below h.own hg (Nat.le_refl _)⟩
theorem sl_len {W : World} {base n : Nat} {sv : Value} {xs : List Value} (h : W.ownsRow base 36 4 sv n xs) : ∃ a c, sv = .slice a n c := by
  rcases h.2 with ⟨rfl, rfl⟩ | ⟨g, cap, _, rfl, _⟩
  · exact ⟨none, 0, rfl⟩
  · exact ⟨some ⟨g, 0, none⟩, cap, rfl⟩

set_option maxRecDepth 100000 in
set_option maxHeartbeats 4000000 in
theorem rcut_any (id : Int) (b : ByteArray) (n : Int) (w : World) :
    Calls Try.prog 8 #[.int .i64 id, .string b, .int .i64 n] w (RowPost w (cutL id b n) (cutE id b n)) := by
  have MA := Lib.hid fun wx => rmsg_any id b wx
  have SA := Lib.hid fun wx => rsize_any n wx
  cases hm : msgB id b
  · have H1 : Hid (cutL id b n = []) := Lib.hid (by unfold cutL; rw [if_neg (by rw [hm]; decide)])
    have H2 : Hid (cutE id b n = 1) := Lib.hid (by unfold cutE; rw [if_neg (by rw [hm]; decide)])
    rw [hm] at MA
    clear hm
    rw [H1.out, H2.out]
    go_enter Try.func8, Try.ntmps8
    go_wp2_with (go_at_call 25; refine (MA.out _).mono ?_; rintro e w2 ⟨rfl, rfl⟩)
    go_ret2
    exact RowPost.nil rfl rfl (Below.refl _ _)
  · cases hs : sizeB n
    · have H1 : Hid (cutL id b n = []) := Lib.hid (by unfold cutL; rw [if_pos hm, if_neg (by rw [hs]; decide)])
      have H2 : Hid (cutE id b n = 7) := Lib.hid (by unfold cutE; rw [if_pos hm, if_neg (by rw [hs]; decide)])
      rw [hm] at MA
      rw [hs] at SA
      clear hm hs
      rw [H1.out, H2.out]
      go_enter Try.func8, Try.ntmps8
      go_wp2_with (first | (go_at_call 25; refine (MA.out _).mono ?_; rintro e w2 ⟨rfl, rfl⟩) | (go_at_call 26; refine (SA.out _).mono ?_; rintro e w2 ⟨rfl, rfl⟩))
      go_ret2
      exact RowPost.nil rfl rfl (Below.refl _ _)
    · obtain ⟨sz, rfl, h1, h2⟩ := size_num hs
      obtain ⟨all, hall⟩ : ∃ all, cutP id (fun _ => some sz) 0 b = all := ⟨_, rfl⟩
      have H1 : Hid (cutL id b sz = all) := Lib.hid (by unfold cutL; rw [if_pos hm, if_pos hs]; exact hall)
      have H2 : Hid (cutE id b sz = 0) := Lib.hid (by unfold cutE; rw [if_pos hm, if_pos hs])
      have HBD := Lib.hid (msg_body hm)
      have HALL := Lib.hid hall
      rw [hm] at MA
      rw [hs] at SA
      clear hm hs hall
      rw [H1.out, H2.out]
      obtain ⟨i0, hi, hz0, hz1, hz2⟩ := info_parts infoPc
      go_enter Try.func8, Try.ntmps8
      go_wp2_with (first | (go_at_call 25; refine (MA.out _).mono ?_; rintro e w2 ⟨rfl, rfl⟩) | (go_at_call 26; refine (SA.out _).mono ?_; rintro e w2 ⟨rfl, rfl⟩))
      go_loopw [1, 8] (fun bv v wr => ∃ (pre : List Pc) (c : ByteArray), bv = .string c ∧ CtI w wr pre v ∧ pre ++ cutP id (fun _ => some sz) pre.length c = all ∧ pre.length + c.size ≤ 65536) (fun bv _ _ => match bv with | .string s => s.size | _ => 0)
      case atStart => exact ⟨[], b, rfl, ⟨World.ownsRow_nil _ _ _ _, Below.refl _ _⟩, HALL.out, by have := HBD.out; simp; omega⟩
      case round =>
        obtain ⟨pre, c, rfl, hinv, hpre, hkb⟩ := hrel
        have HI := Lib.hid hinv
        have HP := Lib.hid hpre
        have HKB := Lib.hid hkb
        obtain ⟨a0, c0, rfl⟩ := sl_len hinv.own
        clear hinv hpre hkb
        have g1 : (0 : Int) ≤ (sz : Int) := by omega
        by_cases hlt : sz < c.size
        · have e2 : decide (sz < c.size) = true := decide_eq_true hlt
          have e4 : (sz : Int) ≤ (c.size : Int) := by omega
          have hcm := cut_more (id := id) (g := fun _ => some sz) (k := pre.length) (b := c) rfl (by omega) hlt
          have HX1 : Hid (pre ++ [⟨id, pre.length, true, c.extract 0 sz⟩] ++ cutP id (fun _ => some sz) (pre.length + 1) (c.extract sz c.size) = all) := Lib.hid (by rw [← HP.out, hcm]; simp)
          have HSD := Lib.hid (size_drop c sz)
          have HLT := Lib.hid hlt
          have HPL : Hid (pre.length ≤ 65536) := Lib.hid (by have := HKB.out; omega)
          clear hcm hlt
          go_wp2_with (at_builtin; refine wpList_append_own_at _ rfl _ _ 24 rfl w.heap.size 36 i0 (.agg #[.int .i64 0, .int .i64 0, .bool false, .string ⟨#[]⟩]) 4 40 under24 hi hz0 hz1 hz2 rfl (by decide) _ _ _ rfl (HI.out.own.alloc _) ⟨wr.heap.size, 0, none⟩ 1 1 [.int .i64 id, .int .i64 pre.length, .bool true, .string (c.extract 0 sz)] rfl rfl (cell_pc_new (heap_alloc_new _ _)) (by simp [Value.oneCell']) (by have := HPL.out; unfold maxLen; omega) (by have := HPL.out; omega) (by have := HI.out.below.size; simp; omega) ?_; intro v' w3 hown' hgrow _ _; have HI3 := Lib.hid (CtI.grown (HI.out.later ((Below.refl _ _).alloc (Nat.le_refl _) _)) hgrow hown'); clear hown' hgrow)
          refine ⟨⟨_, c.extract sz c.size, rfl, HI3.out, ?_, ?_⟩, ?_⟩
          · rw [List.length_append]; exact HX1.out
          · rw [HSD.out, List.length_append]; have := HKB.out; have := HLT.out; simp; omega
          · show (c.extract sz c.size).size < c.size
            rw [HSD.out]; have := HLT.out; omega
        · have e2 : decide (sz < c.size) = false := decide_eq_false hlt
          have hcm := cut_last (id := id) (g := fun _ => some sz) (k := pre.length) (b := c) rfl (by omega)
          have HX1 : Hid (pre ++ [⟨id, pre.length, false, c⟩] = all) := Lib.hid (by rw [← HP.out, hcm])
          have HPL : Hid (pre.length ≤ 65536) := Lib.hid (by have := HKB.out; omega)
          clear hcm hlt
          go_wp2_with (at_builtin; refine wpList_append_own_at _ rfl _ _ 24 rfl w.heap.size 36 i0 (.agg #[.int .i64 0, .int .i64 0, .bool false, .string ⟨#[]⟩]) 4 40 under24 hi hz0 hz1 hz2 rfl (by decide) _ _ _ rfl (HI.out.own.alloc _) ⟨wr.heap.size, 0, none⟩ 1 1 [.int .i64 id, .int .i64 pre.length, .bool false, .string c] rfl rfl (cell_pc_new (heap_alloc_new _ _)) (by simp [Value.oneCell']) (by have := HPL.out; unfold maxLen; omega) (by have := HPL.out; omega) (by have := HI.out.below.size; simp; omega) ?_; intro v' w3 hown' hgrow _ _; have HI3 := Lib.hid (CtI.grown (HI.out.later ((Below.refl _ _).alloc (Nat.le_refl _) _)) hgrow hown'); clear hown' hgrow)
          go_ret2
          exact RowPost.own (by have := HI3.out.own; rw [HX1.out] at this; exact this) rfl HI3.out.below

end Go.Proofs.Ytclhnpbjmefpeaa
