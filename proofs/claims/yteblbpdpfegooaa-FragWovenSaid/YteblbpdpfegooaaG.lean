/- The contracts of Cut and Sizes of both packages. -/
import Derived.Test.YteblbpdpfegooaaF
import Derived.Maps.AppendAt
namespace Go.Proofs.Yteblbpdpfegooaa
open Go.RowKit Go.BigFrame

/-- What Cut returns, and its error. -/
def cutL (id : Int) (b : ByteArray) (n : Int) : List Pc := if msgB id b = true then (if sizeB n = true then cutP id (fun _ => some n.toNat) 0 b else []) else []

def cutE (id : Int) (b : ByteArray) (n : Int) : Int := if msgB id b = true then (if sizeB n = true then 0 else 7) else 1

theorem cutL_len (id : Int) (b : ByteArray) (n : Int) : (cutL id b n).length ≤ b.size + 1 := by
  unfold cutL
  split
  · split
    · exact cut_len id _ b.size 0 b (Nat.le_refl _)
    · simp
  · simp

theorem msg_body {id : Int} {b : ByteArray} (h : msgB id b = true) : b.size ≤ 65536 := by
  simp only [msgB, Bool.and_eq_true, decide_eq_true_eq] at h
  exact h.2

theorem size_num {n : Int} (h : sizeB n = true) : ∃ m : Nat, n = m ∧ 1 ≤ m ∧ m ≤ 65536 := by
  simp only [sizeB, Bool.and_eq_true, decide_eq_true_eq] at h
  exact ⟨n.toNat, by omega, by omega, by omega⟩

theorem below_of_turns {W W' : World} (h : Turns [] W W') : Below W.heap.size W W' := ⟨h.os, h.tape, h.output, h.size, fun k hk => h.block k hk (by simp)⟩

set_option maxRecDepth 100000 in
set_option maxHeartbeats 2000000 in
theorem cut_any (id : Int) (b : ByteArray) (n : Int) (w : World) :
    Calls Try.prog 26 #[.int .i64 id, .string b, .int .i64 n] w (RowPost w (cutL id b n) (cutE id b n)) := by
  have hb : Below w.heap.size w (w.alloc (.cells #[.int .i64 n] 3)) := (Below.refl _ _).alloc (Nat.le_refl _) _
  have HB := Lib.hid hb
  have MA := Lib.hid fun wx => msg_any id b wx
  have SA := Lib.hid fun wx => size_any n wx
  have HX := Lib.hid (Boxed.new w 3 (.int .i64 n))
  clear hb
  cases hm : msgB id b
  · have H1 : Hid (cutL id b n = []) := Lib.hid (by unfold cutL; rw [if_neg (by rw [hm]; decide)])
    have H2 : Hid (cutE id b n = 1) := Lib.hid (by unfold cutE; rw [if_neg (by rw [hm]; decide)])
    rw [hm] at MA
    clear hm
    rw [H1.out, H2.out]
    go_enter Try.func26, Try.ntmps26
    go_wp2_with (go_at_call 37; refine (MA.out _).mono ?_; rintro e w2 ⟨rfl, rfl⟩)
    go_ret2
    exact RowPost.nil rfl rfl HB.out
  · cases hs : sizeB n
    · have H1 : Hid (cutL id b n = []) := Lib.hid (by unfold cutL; rw [if_pos hm, if_neg (by rw [hs]; decide)])
      have H2 : Hid (cutE id b n = 7) := Lib.hid (by unfold cutE; rw [if_pos hm, if_neg (by rw [hs]; decide)])
      rw [hm] at MA
      rw [hs] at SA
      clear hm hs
      rw [H1.out, H2.out]
      go_enter Try.func26, Try.ntmps26
      go_wp2_with (first | (go_at_call 37; refine (MA.out _).mono ?_; rintro e w2 ⟨rfl, rfl⟩) | (go_at_call 38; refine (SA.out _).mono ?_; rintro e w2 ⟨rfl, rfl⟩))
      go_ret2
      exact RowPost.nil rfl rfl HB.out
    · obtain ⟨m, rfl, h1, h2⟩ := size_num hs
      have H1 : Hid (cutL id b m = cutP id (fun _ => some m) 0 b) := Lib.hid (by unfold cutL; rw [if_pos hm, if_pos hs]; rfl)
      have H2 : Hid (cutE id b m = 0) := Lib.hid (by unfold cutE; rw [if_pos hm, if_pos hs])
      have GA := Lib.hid (gatheredCut_any id m w.heap.size h1 h2 b (msg_body hm) (w.alloc (.cells #[.int .i64 m] 3)) HX.out)
      rw [hm] at MA
      rw [hs] at SA
      clear hm hs h1 h2
      rw [H1.out, H2.out]
      go_enter Try.func26, Try.ntmps26
      go_wp2_with (first | (go_at_call 37; refine (MA.out _).mono ?_; rintro e w2 ⟨rfl, rfl⟩) | (go_at_call 38; refine (SA.out _).mono ?_; rintro e w2 ⟨rfl, rfl⟩) | (go_at_call 39; refine GA.out.mono ?_; rintro e w2 ⟨sv, rfl, ho, ht⟩; have HO := Lib.hid ho; have HT := Lib.hid ht; clear ho ht))
      go_ret2
      exact RowPost.own HO.out rfl (HB.out.trans ((below_of_turns HT.out).mono HB.out.size))

/-- What the reference has cut so far. -/
structure CtI (w wr : World) (pre : List Pc) (sv : Value) : Prop where
  own : wr.ownsRow w.heap.size 25 4 sv pre.length (pcCells pre)
  below : Below w.heap.size w wr

theorem CtI.later {w wr wx : World} {l : List Pc} {sv : Value} (h : CtI w wr l sv) (hb : Below wr.heap.size wr wx) : CtI w wx l sv :=
  ⟨ownsRow_below h.own hb, h.below.trans (hb.mono h.below.size)⟩

theorem CtI.grown {w wr wx : World} {l : List Pc} {sv sv' : Value} {i pl : Int} {m : Bool} {b : ByteArray} (h : CtI w wr l sv) (hg : wr.grownBy wx sv.ownBlock) (ho : wx.ownsRow w.heap.size 25 4 sv' (l.length + 1) (pcCells l ++ [.int .i64 i, .int .i64 pl, .bool m, .string b])) : CtI w wx (l ++ [⟨i, pl, m, b⟩]) sv' :=
  ⟨by rw [pcCells_snoc, List.length_append]; exact ho, below_grown h.below h.own hg (Nat.le_refl _)⟩

theorem sl_len {W : World} {base n : Nat} {sv : Value} {xs : List Value} (h : W.ownsRow base 25 4 sv n xs) : ∃ a c, sv = .slice a n c := by
  rcases h.2 with ⟨rfl, rfl⟩ | ⟨g, cap, _, rfl, _⟩
  · exact ⟨none, 0, rfl⟩
  · exact ⟨some ⟨g, 0, none⟩, cap, rfl⟩

end Go.Proofs.Yteblbpdpfegooaa
