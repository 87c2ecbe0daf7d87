/-
  PROVED HERE: the law CdrWrites returns true for no acts; what an argument of acts is in memory, and how its bulk bounds its texts.
-/
import Derived.Test.YtdklmeamhcgohaaZi
import Derived.Test.YtdklmeamhcgohaaRows
import Derived.Deep.Slices
import Derived.Lib.SmallJoins
namespace Go.Proofs.Ytdklmeamhcgohaa
open Go.RowKit Go.ChangeShapes Go.WideShapes

set_option maxRecDepth 100000 in
set_option maxHeartbeats 1600000 in
theorem light_empty (ao : Option Addr) (cap : Nat) (w : World) :
    Calls Try.prog 9 #[.slice ao 0 cap] w fun e w' => e = .returned (.bool true) ∧ Below w.heap.size w w' := by
  go_enter Try.func9, Try.ntmps9
  go_wp2_with fail
  go_loopw [3, 8] (fun n i wr => n = .int .i64 0 ∧ i = .int .i64 0 ∧ wr = w) (fun _ _ _ => 0)
  case atStart => exact ⟨rfl, rfl, rfl⟩
  case round =>
    obtain ⟨rfl, rfl, rfl⟩ := hrel
    go_wp2_with fail
    go_ret
    exact ⟨rfl, Below.refl _ _⟩

set_option maxRecDepth 100000 in
set_option maxHeartbeats 4000000 in
theorem walk3_empty (big : Bool) (at' : Int) (ao : Option Addr) (cap : Nat) (w : World) :
    Calls Try.prog 3 #[.bool big, .int .i64 at', .slice ao 0 cap] w fun e w' => e = .returned (.bool true) ∧ Below w.heap.size w w' := by
  have LG := Lib.hid (light_empty ao cap w)
  obtain ⟨a, hav⟩ : ∃ a, atN at' = a := ⟨_, rfl⟩
  have HA := Lib.hid hav
  clear hav
  go_enter Try.func3, Try.ntmps3
  go_wp2_with (first | (go_at_call 9; refine LG.out.mono ?_; rintro e w1 ⟨rfl, hb1⟩; have B1 := Lib.hid hb1; clear hb1) | (go_at_call 11; refine (newWriter_any _ _ _).mono ?_; rintro e w2 ⟨b1, rfl, hb2, hw2, hbe2⟩) | (go_at_call 12; refine (rnew_any _ _ _).mono ?_; rintro e w3 ⟨b2, rfl, hb3, hw3, hbe3⟩))
  rw [HA.out] at hw2 hw3
  have P0 : PairW w w3 b1 (.slice none 0 0) [] b2 (.slice none 0 0) [] big a := by
    have m1 := NewW.made (W0 := w) hw2 (Nat.le_trans B1.out.size hb2) (B1.out.trans (hbe2.mono B1.out.size))
    exact ⟨m1.holds.older hbe3 (Nat.le_refl _), ⟨hw3, World.ownsRow_nil _ 0 5 1⟩, by have := m1.holds.1.lt; omega, by simp [Value.ownBlock], m1.lo, Nat.le_trans m1.below.size hb3, m1.own, by simp [Value.ownBlock], m1.below.trans (hbe3.mono m1.below.size)⟩
  have HP := Lib.hid P0
  clear P0 hw2 hw3 hb2 hb3 hbe2 hbe3
  have AA := Lib.hid (all_any b1 big a _ [] w3 HP.out.pa)
  have AB := Lib.hid (rall_any b2 big a _ [] w3 HP.out.pb)
  obtain ⟨t, hto⟩ : ∃ t, (⟨([] : List UInt8).toArray⟩ : ByteArray) = t := ⟨_, rfl⟩
  rw [hto] at AA AB
  clear hto
  go_loopw [24] (fun i wr => i = .int .i64 0 ∧ wr = w3) (fun _ _ => 0)
  case atStart => exact ⟨rfl, rfl⟩
  case round =>
    obtain ⟨rfl, rfl⟩ := hrel
    go_wp2_with (first | (go_at_call 17; (fail_if_success (have := k1)); refine AA.out.mono ?_; rintro e w4 ⟨rfl, rfl⟩; have k1 := true) | (go_at_call 18; refine AB.out.mono ?_; rintro e w4 ⟨rfl, rfl⟩) | (go_at_call 19; refine (octet_nil _).mono ?_; rintro e w5 ⟨rfl, hb5⟩; have B5 := Lib.hid hb5; clear hb5) | (go_at_call 20; refine (put_nil _).mono ?_; rintro e w6 ⟨rfl, hb6⟩; have B6 := Lib.hid hb6; clear hb6) | (go_at_call 15; refine (place_nil _).mono ?_; rintro e w7 ⟨rfl, rfl⟩))
    refine (all_nil _).mono ?_
    rintro e w8 ⟨rfl, rfl⟩
    go_wp2_with (go_at_call 10; refine (awake_any _).mono ?_; rintro e w9 ⟨rfl, hb9⟩; have B9 := Lib.hid hb9; clear hb9)
    go_ret
    have b1' := HP.out.below
    have b2' := b1'.trans (B5.out.mono b1'.size)
    have b3' := b2'.trans (B6.out.mono b2'.size)
    exact ⟨rfl, b3'.trans (B9.out.mono b3'.size)⟩

/-! ### The argument -/

theorem Try.cells30 : Try.prog.cellsOf 30 = 4 := by kernel_rfl
theorem Try.cells3 : Try.prog.cellsOf 3 = 1 := by kernel_rfl
theorem Try.cells9 : Try.prog.cellsOf 9 = 1 := by kernel_rfl

theorem open_act {H : Type} {enc : TypeId × Value → H} {W : World} {sp : Nat → Bool} {n : Nat} {cs : List Value} {x : DataW H × List MemPlace} (h : DataW.trod enc Try.prog W 0 sp true n 30 cs = some x) :
    ∃ y : ActD, cs = [.int .i64 y.k, .int .i64 y.n, .int .i64 y.m, .string y.s] ∧ x.1 = .agg [.lit (.int .i64 y.k), .lit (.int .i64 y.n), .lit (.int .i64 y.m), .lit (.string y.s.data.toList)] := by
  obtain ⟨y0, y1, y2, y3, m, rfl, hl, h0, h1, h2, h3⟩ := Go.Joins.trod_struct4 Try.underlying30 h
  rw [Try.cells30] at hl
  match cs, hl with
  | [v0, v1, v2, v3], _ =>
    simp [Try.cells3] at h0 h1 h2
    simp [Try.cells9] at h3
    obtain ⟨k, e0, rfl, _⟩ := DataW.trod_int Try.underlying3 h0
    obtain ⟨nn, e1, rfl, _⟩ := DataW.trod_int Try.underlying3 h1
    obtain ⟨mm, e2, rfl, _⟩ := DataW.trod_int Try.underlying3 h2
    obtain ⟨s, e3, rfl, _⟩ := DataW.trod_string Try.underlying9 h3
    simp at e0 e1 e2 e3
    subst e0 e1 e2 e3
    exact ⟨⟨k, nn, mm, s⟩, rfl, rfl⟩
end Go.Proofs.Ytdklmeamhcgohaa
