/-
  PROVED HERE: what the plain functions of a reader of the reference do: making one, its place, what is left, its end, Fail.
-/
import Derived.Test.YtdklmeamhcgohaaRb
namespace Go.Proofs.Ytdklmeamhcgohaa
open Go.RowKit

/-- BLOCK b IS A READER of the reference: of the bytes s, the next one's index i; was something wrong? -/
def RdAt (W : World) (b : Nat) (big : Bool) (a : Int) (s : ByteArray) (i : Nat) (wr : Bool) : Prop := W.heap[b]? = some (.cells #[.string s, .bool big, .int .i64 a, .int .i64 i, .int .i64 (badN a i wr)] 78 (0, 0))

section
variable {W : World} {b : Nat} {big : Bool} {a : Int} {s : ByteArray} {i : Nat} {wr : Bool}
theorem RdAt.lt (h : RdAt W b big a s i wr) : b < W.heap.size := (Array.getElem?_eq_some_iff.1 h).1
theorem RdAt.c0 (h : RdAt W b big a s i wr) : W.cell? ⟨b, 0, none⟩ = some (.string s) := by simp [World.cell?, show W.heap[b]? = _ from h]
theorem RdAt.c1 (h : RdAt W b big a s i wr) : W.cell? ⟨b, 1, none⟩ = some (.bool big) := by simp [World.cell?, show W.heap[b]? = _ from h]
theorem RdAt.c2 (h : RdAt W b big a s i wr) : W.cell? ⟨b, 2, none⟩ = some (.int .i64 a) := by simp [World.cell?, show W.heap[b]? = _ from h]
theorem RdAt.c3 (h : RdAt W b big a s i wr) : W.cell? ⟨b, 3, none⟩ = some (.int .i64 i) := by simp [World.cell?, show W.heap[b]? = _ from h]
theorem RdAt.c4 (h : RdAt W b big a s i wr) : W.cell? ⟨b, 4, none⟩ = some (.int .i64 (badN a i wr)) := by simp [World.cell?, show W.heap[b]? = _ from h]
theorem RdAt.f3 (h : RdAt W b big a s i wr) : W.frozen? ⟨b, 3, none⟩ = false := by simp [World.frozen?, show W.heap[b]? = _ from h]
theorem RdAt.f4 (h : RdAt W b big a s i wr) : W.frozen? ⟨b, 4, none⟩ = false := by simp [World.frozen?, show W.heap[b]? = _ from h]
theorem RdAt.kept {W' : World} {row : Option Nat} (h : RdAt W b big a s i wr) (hg : W.grownBy W' row) (hne : some b ≠ row) : RdAt W' b big a s i wr := (hg.block b h.lt hne).trans h
theorem RdAt.alloc (h : RdAt W b big a s i wr) (o : Obj) : RdAt (W.alloc o) b big a s i wr := h.kept (World.grownBy_alloc W o none) (by simp)
theorem RdAt.below {W' : World} {B : Nat} (h : RdAt W b big a s i wr) (hb : Below B W W') (hB : b < B) : RdAt W' b big a s i wr := (hb.block b hB).trans h
theorem RdAt.drewN (h : RdAt W b big a s i wr) (n : Nat) : RdAt (W.drewN n) b big a s i wr := h
theorem RdAt.set3 (h : RdAt W b big a s i false) (j : Nat) : RdAt (W.setCell ⟨b, 3, none⟩ (.int .i64 j)) b big a s j false := by
  obtain ⟨hlt, hk⟩ := Array.getElem?_eq_some_iff.1 h
  show (W.heap.modify b _)[b]? = _
  rw [Array.getElem?_eq_getElem (by rw [Array.size_modify]; exact hlt), Array.getElem_modify_self, hk]
  rfl
theorem RdAt.fail (h : RdAt W b big a s i wr) (j : Nat) : RdAt ((W.setCell ⟨b, 4, none⟩ (.int .i64 (a + j))).setCell ⟨b, 3, none⟩ (.int .i64 j)) b big a s j true := by
  obtain ⟨hlt, hk⟩ := Array.getElem?_eq_some_iff.1 h
  show ((W.setCell ⟨b, 4, none⟩ (.int .i64 (a + j))).heap.modify b _)[b]? = _
  have h1 : (W.setCell ⟨b, 4, none⟩ (.int .i64 (a + j))).heap[b]? = some (.cells #[.string s, .bool big, .int .i64 a, .int .i64 i, .int .i64 (a + j)] 78 (0, 0)) := by
    show (W.heap.modify b _)[b]? = _
    rw [Array.getElem?_eq_getElem (by rw [Array.size_modify]; exact hlt), Array.getElem_modify_self, hk]
    rfl
  obtain ⟨hlt2, hk2⟩ := Array.getElem?_eq_some_iff.1 h1
  rw [Array.getElem?_eq_getElem (by rw [Array.size_modify]; exact hlt2), Array.getElem_modify_self, hk2]
  rfl
end

set_option maxHeartbeats 400000 in
theorem rnewReader_any (s : ByteArray) (big : Bool) (a : Int) (w : World) :
    Calls Try.prog 22 #[.string s, .bool big, .int .i64 a] w fun e w' => ∃ b, e = .returned (.pointer (some ⟨b, 0, none⟩)) ∧ w.heap.size ≤ b ∧ RdAt w' b big (atN a) s 0 false ∧ Below w.heap.size w w' := by
  go_enter Try.func22, Try.ntmps22
  go_wp2_with (go_at_call 40; refine (from_any _ _).mono ?_; rintro e w' ⟨rfl, rfl⟩)
  go_ret
  exact ⟨_, rfl, Nat.le_refl _, heap_alloc_new _ _, (Below.refl _ _).alloc (Nat.le_refl _) _⟩

set_option maxHeartbeats 400000 in
theorem rdplace_any (b : Nat) (big : Bool) (a : Int) (s : ByteArray) (i : Nat) (wr : Bool) (w : World) (h : RdAt w b big a s i wr) (ha : 0 ≤ a) (ha2 : a ≤ 7) (hi : i ≤ 1000000000) :
    Calls Try.prog 26 #[.pointer (some ⟨b, 0, none⟩)] w fun e w' => e = .returned (.int .i64 (a + i)) ∧ ∃ n, w' = w.drewN n := by
  have c2 := h.c2
  have c3 := h.c3
  clear h
  go_enter Try.func26, Try.ntmps26
  go_wp2
  go_quiet (fail)
  go_wp2
  go_ret
  exact ⟨rfl, _, rfl⟩

set_option maxHeartbeats 400000 in
theorem rdleft_any (b : Nat) (big : Bool) (a : Int) (s : ByteArray) (i : Nat) (wr : Bool) (w : World) (h : RdAt w b big a s i wr) (hs : s.size ≤ 1000000000) (hi : i ≤ 1000000000) :
    Calls Try.prog 28 #[.pointer (some ⟨b, 0, none⟩)] w fun e w' => e = .returned (.int .i64 ((s.size : Int) - i)) ∧ ∃ n, w' = w.drewN n := by
  have c0 := h.c0
  have c3 := h.c3
  clear h
  go_enter Try.func28, Try.ntmps28
  go_wp2
  go_quiet (fail)
  go_wp2
  go_ret
  exact ⟨rfl, _, rfl⟩

set_option maxHeartbeats 400000 in
theorem rdend_any (b : Nat) (big : Bool) (a : Int) (s : ByteArray) (i : Nat) (wr : Bool) (w : World) (h : RdAt w b big a s i wr) (ha : 0 ≤ a) (ha2 : a ≤ 7) (hs : s.size ≤ 1000000000) :
    Calls Try.prog 104 #[.pointer (some ⟨b, 0, none⟩)] w fun e w' => e = .returned (.int .i64 (a + s.size)) ∧ ∃ n, w' = w.drewN n := by
  have c0 := h.c0
  have c2 := h.c2
  clear h
  go_enter Try.func104, Try.ntmps104
  go_wp2
  go_quiet (fail)
  go_wp2
  go_ret
  exact ⟨rfl, _, rfl⟩

set_option maxHeartbeats 400000 in
theorem rdbad_any (b : Nat) (big : Bool) (a : Int) (s : ByteArray) (i : Nat) (wr : Bool) (w : World) (h : RdAt w b big a s i wr) :
    Calls Try.prog 30 #[.pointer (some ⟨b, 0, none⟩)] w fun e w' => e = .returned (.int .i64 (badN a i wr)) ∧ w = w' := by
  have c4 := h.c4
  clear h
  go_enter Try.func30, Try.ntmps30
  go_wp2_with fail
  go_ret
  exact ⟨rfl, rfl⟩

set_option maxHeartbeats 400000 in
theorem fail_any (b : Nat) (big : Bool) (a : Int) (s : ByteArray) (i : Nat) (wr : Bool) (j : Nat) (w : World) (h : RdAt w b big a s i wr) (hj : j ≤ 1000000000) :
    Calls Try.prog 100 #[.pointer (some ⟨b, 0, none⟩), .int .i64 (a + j)] w fun e w' => e = .returned (.int .i64 12) ∧ RdAt w' b big a s j true ∧ w.grownBy w' (some b) := by
  have c2 := h.c2
  have c3 := h.c3
  have f3 := h.f3
  have c4 := h.c4
  have f4 := h.f4
  have hsub : a + (j : Int) - a = j := by omega
  have HG : Hid (RdAt ((w.setCell ⟨b, 4, none⟩ (.int .i64 (a + j))).setCell ⟨b, 3, none⟩ (.int .i64 j)) b big a s j true ∧ w.grownBy ((w.setCell ⟨b, 4, none⟩ (.int .i64 (a + j))).setCell ⟨b, 3, none⟩ (.int .i64 j)) (some b)) :=
    Lib.hid ⟨h.fail j, (grownBy_setCell2 w ⟨b, 4, none⟩ (.int .i64 (a + j))).trans (grownBy_setCell2 _ ⟨b, 3, none⟩ (.int .i64 j))⟩
  clear h
  go_enter Try.func100, Try.ntmps100
  go_wp2_with fail
  go_ret
  exact ⟨rfl, HG.out⟩

end Go.Proofs.Ytdklmeamhcgohaa
