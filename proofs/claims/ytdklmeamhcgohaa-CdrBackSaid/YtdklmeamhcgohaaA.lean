/- Contracts of the plain functions of package cdr (padding, newFrame, NewWriter), over the translated program. -/
import Derived.Test.YtdklmeamhcgohaaProg
import Derived.WalkKit
import Derived.Lib.Hide
import Derived.Below
import Derived.IntWalk
import Derived.BigQuiet
import Derived.Deep.QuietTactic
namespace Go.Proofs.Ytdklmeamhcgohaa
open Go.RowKit

/-- The padding at a place for a size. -/
def padN (p s : Int) : Int := (s - p % s) % s

set_option maxHeartbeats 400000 in
theorem padding_any (p s : Int) (w : World) (hp : 0 ≤ p) (hp2 : p ≤ 1000000000000) (hs : 1 ≤ s) (hs2 : s ≤ 8) :
    Calls Try.prog 81 #[.int .i64 p, .int .i64 s] w fun e w' => e = .returned (.int .i64 (padN p s)) ∧ w = w' := by
  have h1 : 0 ≤ p % s := Int.emod_nonneg _ (by omega)
  have h2 : p % s < s := Int.emod_lt_of_pos _ (by omega)
  go_enter Try.func81, Try.ntmps81
  go_wp2
  go_ret
  exact ⟨rfl, rfl⟩

/-- The place of a frame's first byte. -/
def atN (a : Int) : Int := if a < 0 ∨ 7 < a then 0 else a

theorem atN_bd (a : Int) : 0 ≤ atN a ∧ atN a ≤ 7 := by unfold atN; split <;> omega

set_option maxHeartbeats 400000 in
theorem newFrame_any (big : Bool) (a : Int) (w : World) :
    Calls Try.prog 39 #[.bool big, .int .i64 a] w fun e w' => e = .returned (.agg #[.bool big, .int .i64 (atN a)]) ∧ Below w.heap.size w w' := by
  by_cases h1 : a < 0
  · have hA : Hid (atN a = 0) := Lib.hid (by unfold atN; simp [h1])
    go_enter Try.func39, Try.ntmps39
    go_wp2
    refine bodyPost_ret (v := .agg #[.bool big, .int .i64 0]) (by simp [results, Try.results39, go_sem]) rfl ⟨by rw [hA.out], ?_⟩
    exact (Below.refl _ _).alloc (Nat.le_refl _) _
  · by_cases h2 : 7 < a
    · have hA : Hid (atN a = 0) := Lib.hid (by unfold atN; simp [h2])
      go_enter Try.func39, Try.ntmps39
      go_wp2
      refine bodyPost_ret (v := .agg #[.bool big, .int .i64 0]) (by simp [results, Try.results39, go_sem]) rfl ⟨by rw [hA.out], ?_⟩
      exact (Below.refl _ _).alloc (Nat.le_refl _) _
    · have hA : Hid (atN a = a) := Lib.hid (by unfold atN; simp; omega)
      go_enter Try.func39, Try.ntmps39
      go_wp2
      refine bodyPost_ret (v := .agg #[.bool big, .int .i64 a]) (by simp [results, Try.results39, go_sem]) rfl ⟨by rw [hA.out], ?_⟩
      exact (Below.refl _ _).alloc (Nat.le_refl _) _

/-- BLOCK b IS A WRITER of the program: its order, its place, its bytes' slice. -/
def WAt (W : World) (b : Nat) (big : Bool) (a : Int) (sv : Value) : Prop := W.heap[b]? = some (.cells #[.bool big, .int .i64 a, sv] 64 (0, 0))

set_option maxHeartbeats 400000 in
theorem newWriter_any (big : Bool) (a : Int) (w : World) :
    Calls Try.prog 11 #[.bool big, .int .i64 a] w fun e w' => ∃ b, e = .returned (.pointer (some ⟨b, 0, none⟩)) ∧ w.heap.size ≤ b ∧ WAt w' b big (atN a) (.slice none 0 0) ∧ Below w.heap.size w w' := by
  go_enter Try.func11, Try.ntmps11
  go_wp2_with (go_at_call 39; refine (newFrame_any _ _ _).mono ?_; rintro e w' ⟨rfl, hb⟩)
  go_ret
  refine ⟨_, rfl, hb.size, ?_, ?_⟩
  · exact heap_alloc_new _ _
  · exact hb.alloc hb.size _

theorem WAt.lt {W : World} {b : Nat} {big : Bool} {a : Int} {sv : Value} (h : WAt W b big a sv) : b < W.heap.size := (Array.getElem?_eq_some_iff.1 h).1
theorem WAt.c0 {W : World} {b : Nat} {big : Bool} {a : Int} {sv : Value} (h : WAt W b big a sv) : W.cell? ⟨b, 0, none⟩ = some (.bool big) := by simp [World.cell?, show W.heap[b]? = _ from h]
theorem WAt.c1 {W : World} {b : Nat} {big : Bool} {a : Int} {sv : Value} (h : WAt W b big a sv) : W.cell? ⟨b, 1, none⟩ = some (.int .i64 a) := by simp [World.cell?, show W.heap[b]? = _ from h]
theorem WAt.c2 {W : World} {b : Nat} {big : Bool} {a : Int} {sv : Value} (h : WAt W b big a sv) : W.cell? ⟨b, 2, none⟩ = some sv := by simp [World.cell?, show W.heap[b]? = _ from h]
theorem WAt.f2 {W : World} {b : Nat} {big : Bool} {a : Int} {sv : Value} (h : WAt W b big a sv) : W.frozen? ⟨b, 2, none⟩ = false := by simp [World.frozen?, show W.heap[b]? = _ from h]

set_option maxHeartbeats 400000 in
theorem place_any (b : Nat) (big : Bool) (a : Int) (ao : Option Addr) (L cap : Nat) (w : World) (h : WAt w b big a (.slice ao L cap)) (ha : 0 ≤ a) (ha2 : a ≤ 7) (hL : L ≤ 1000000000) :
    Calls Try.prog 15 #[.pointer (some ⟨b, 0, none⟩)] w fun e w' => e = .returned (.int .i64 (a + L)) ∧ ∃ n, w' = w.drewN n := by
  have c1 := h.c1
  have c2 := h.c2
  clear h
  go_enter Try.func15, Try.ntmps15
  go_wp2
  go_quiet (fail)
  go_wp2
  go_ret
  exact ⟨rfl, _, rfl⟩

theorem padN_bd (p s : Int) (hs : 1 ≤ s) : 0 ≤ padN p s ∧ padN p s < s := by
  unfold padN
  exact ⟨Int.emod_nonneg _ (by omega), Int.emod_lt_of_pos _ (by omega)⟩

set_option maxHeartbeats 400000 in
theorem has_any (b : Nat) (big : Bool) (a s n : Int) (ao : Option Addr) (L cap : Nat) (w : World) (h : WAt w b big a (.slice ao L cap)) (ha : 0 ≤ a) (ha2 : a ≤ 7) (hL : L ≤ 1000000000)
    (hs : 1 ≤ s) (hs2 : s ≤ 8) (hn : 0 ≤ n) (hn2 : n ≤ 1000000000000) :
    Calls Try.prog 85 #[.pointer (some ⟨b, 0, none⟩), .int .i64 s, .int .i64 n] w fun e w' => e = .returned (.bool (decide ((L : Int) + padN (a + L) s + n ≤ 65536))) ∧ ∃ n, w' = w.drewN n := by
  have c2 := h.c2
  have hp := padN_bd (a + L) s hs
  obtain ⟨hp1, hp2⟩ := hp
  go_enter Try.func85, Try.ntmps85
  go_wp2
  go_quiet ((first | (go_at_call 15; exact Calls.quiet_of (place_any b big a ao L cap _ h ha ha2 hL)) | (go_at_call 81; exact Calls.quiet_of_same ((padding_any (a + L) s _ (by omega) (by omega) hs hs2).mono fun _ _ h => ⟨h.1, h.2.symm⟩))))
  go_wp2
  go_ways
  go_ret
  exact ⟨rfl, _, rfl⟩

end Go.Proofs.Ytdklmeamhcgohaa
