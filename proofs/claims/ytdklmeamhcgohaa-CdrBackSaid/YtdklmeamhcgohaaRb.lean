/-
  PROVED HERE: what the plain functions of a reader of package cdr do: making one, its place, what is left, stop, ready, zeros.
-/
import Derived.Test.YtdklmeamhcgohaaRa
namespace Go.Proofs.Ytdklmeamhcgohaa
open Go.RowKit

/-- BLOCK b IS A READER of the program: of the bytes s, the next one's index i; was something wrong? -/
def CdAt (W : World) (b : Nat) (big : Bool) (a : Int) (s : ByteArray) (i : Nat) (wr : Bool) : Prop := W.heap[b]? = some (.cells #[.bool big, .int .i64 a, .string s, .int .i64 i, .bool wr] 76 (0, 0))

section
variable {W : World} {b : Nat} {big : Bool} {a : Int} {s : ByteArray} {i : Nat} {wr : Bool}
theorem CdAt.lt (h : CdAt W b big a s i wr) : b < W.heap.size := (Array.getElem?_eq_some_iff.1 h).1
theorem CdAt.c0 (h : CdAt W b big a s i wr) : W.cell? ⟨b, 0, none⟩ = some (.bool big) := by simp [World.cell?, show W.heap[b]? = _ from h]
theorem CdAt.c1 (h : CdAt W b big a s i wr) : W.cell? ⟨b, 1, none⟩ = some (.int .i64 a) := by simp [World.cell?, show W.heap[b]? = _ from h]
theorem CdAt.c2 (h : CdAt W b big a s i wr) : W.cell? ⟨b, 2, none⟩ = some (.string s) := by simp [World.cell?, show W.heap[b]? = _ from h]
theorem CdAt.c3 (h : CdAt W b big a s i wr) : W.cell? ⟨b, 3, none⟩ = some (.int .i64 i) := by simp [World.cell?, show W.heap[b]? = _ from h]
theorem CdAt.c4 (h : CdAt W b big a s i wr) : W.cell? ⟨b, 4, none⟩ = some (.bool wr) := by simp [World.cell?, show W.heap[b]? = _ from h]
theorem CdAt.f3 (h : CdAt W b big a s i wr) : W.frozen? ⟨b, 3, none⟩ = false := by simp [World.frozen?, show W.heap[b]? = _ from h]
theorem CdAt.f4 (h : CdAt W b big a s i wr) : W.frozen? ⟨b, 4, none⟩ = false := by simp [World.frozen?, show W.heap[b]? = _ from h]
theorem CdAt.kept {W' : World} {row : Option Nat} (h : CdAt W b big a s i wr) (hg : W.grownBy W' row) (hne : some b ≠ row) : CdAt W' b big a s i wr := (hg.block b h.lt hne).trans h
theorem CdAt.alloc (h : CdAt W b big a s i wr) (o : Obj) : CdAt (W.alloc o) b big a s i wr := h.kept (World.grownBy_alloc W o none) (by simp)
theorem CdAt.below {W' : World} {B : Nat} (h : CdAt W b big a s i wr) (hb : Below B W W') (hB : b < B) : CdAt W' b big a s i wr := (hb.block b hB).trans h
theorem CdAt.drewN (h : CdAt W b big a s i wr) (n : Nat) : CdAt (W.drewN n) b big a s i wr := h
theorem CdAt.set3 (h : CdAt W b big a s i wr) (j : Nat) : CdAt (W.setCell ⟨b, 3, none⟩ (.int .i64 j)) b big a s j wr := by
  obtain ⟨hlt, hk⟩ := Array.getElem?_eq_some_iff.1 h
  show (W.heap.modify b _)[b]? = _
  rw [Array.getElem?_eq_getElem (by rw [Array.size_modify]; exact hlt), Array.getElem_modify_self, hk]
  rfl
theorem CdAt.set4 (h : CdAt W b big a s i wr) (r : Bool) : CdAt (W.setCell ⟨b, 4, none⟩ (.bool r)) b big a s i r := by
  obtain ⟨hlt, hk⟩ := Array.getElem?_eq_some_iff.1 h
  show (W.heap.modify b _)[b]? = _
  rw [Array.getElem?_eq_getElem (by rw [Array.size_modify]; exact hlt), Array.getElem_modify_self, hk]
  rfl
end

theorem grownBy_refl (W : World) (r : Option Nat) : W.grownBy W r := ⟨rfl, rfl, rfl, Nat.le_refl _, fun _ _ _ => rfl⟩
theorem grownBy_drewN (W : World) (n : Nat) (r : Option Nat) : W.grownBy (W.drewN n) r := ⟨rfl, rfl, rfl, Nat.le_refl _, fun _ _ _ => rfl⟩
theorem grownBy_below {W W' : World} (h : Below W.heap.size W W') (r : Option Nat) : W.grownBy W' r := ⟨h.os, h.tape, h.output, h.size, fun k hk _ => h.block k hk⟩

set_option maxHeartbeats 400000 in
theorem newReader_any (s : ByteArray) (big : Bool) (a : Int) (w : World) :
    Calls Try.prog 21 #[.string s, .bool big, .int .i64 a] w fun e w' => ∃ b, e = .returned (.pointer (some ⟨b, 0, none⟩)) ∧ w.heap.size ≤ b ∧ CdAt w' b big (atN a) s 0 false ∧ Below w.heap.size w w' := by
  go_enter Try.func21, Try.ntmps21
  go_wp2_with (go_at_call 39; refine (newFrame_any _ _ _).mono ?_; rintro e w' ⟨rfl, hb⟩)
  go_ret
  refine ⟨_, rfl, hb.size, ?_, ?_⟩
  · exact heap_alloc_new _ _
  · exact hb.alloc hb.size _

set_option maxHeartbeats 400000 in
theorem cplace_any (b : Nat) (big : Bool) (a : Int) (s : ByteArray) (i : Nat) (wr : Bool) (w : World) (h : CdAt w b big a s i wr) (ha : 0 ≤ a) (ha2 : a ≤ 7) (hi : i ≤ 1000000000) :
    Calls Try.prog 25 #[.pointer (some ⟨b, 0, none⟩)] w fun e w' => e = .returned (.int .i64 (a + i)) ∧ ∃ n, w' = w.drewN n := by
  have c1 := h.c1
  have c3 := h.c3
  clear h
  go_enter Try.func25, Try.ntmps25
  go_wp2
  go_quiet (fail)
  go_wp2
  go_ret
  exact ⟨rfl, _, rfl⟩

set_option maxHeartbeats 400000 in
theorem cleft_any (b : Nat) (big : Bool) (a : Int) (s : ByteArray) (i : Nat) (wr : Bool) (w : World) (h : CdAt w b big a s i wr) (hs : s.size ≤ 1000000000) (hi : i ≤ 1000000000) :
    Calls Try.prog 27 #[.pointer (some ⟨b, 0, none⟩)] w fun e w' => e = .returned (.int .i64 ((s.size : Int) - i)) ∧ ∃ n, w' = w.drewN n := by
  have c2 := h.c2
  have c3 := h.c3
  clear h
  go_enter Try.func27, Try.ntmps27
  go_wp2
  go_quiet (fail)
  go_wp2
  go_ret
  exact ⟨rfl, _, rfl⟩

/-- The place of the first wrong byte. -/
def badN (a : Int) (i : Nat) (wr : Bool) : Int := if wr then a + i else -1

set_option maxHeartbeats 400000 in
theorem cbad_any (b : Nat) (big : Bool) (a : Int) (s : ByteArray) (i : Nat) (wr : Bool) (w : World) (h : CdAt w b big a s i wr) (ha : 0 ≤ a) (ha2 : a ≤ 7) (hi : i ≤ 1000000000) :
    Calls Try.prog 29 #[.pointer (some ⟨b, 0, none⟩)] w fun e w' => e = .returned (.int .i64 (badN a i wr)) ∧ ∃ n, w' = w.drewN n := by
  have CP := Lib.hid (cplace_any b big a s i wr w h ha ha2 hi)
  have c4 := h.c4
  clear h
  cases wr
  · go_enter Try.func29, Try.ntmps29
    go_wp2_with fail
    go_ret
    exact ⟨rfl, 0, rfl⟩
  · go_enter Try.func29, Try.ntmps29
    go_wp2_with (go_at_call 25; refine CP.out.mono ?_; rintro e w1 ⟨rfl, nq, rfl⟩)
    go_ret
    exact ⟨rfl, nq, rfl⟩

set_option maxHeartbeats 400000 in
theorem stop_any (b : Nat) (big : Bool) (a : Int) (s : ByteArray) (i : Nat) (wr : Bool) (j : Nat) (w : World) (h : CdAt w b big a s i wr) :
    Calls Try.prog 78 #[.pointer (some ⟨b, 0, none⟩), .int .i64 j] w fun e w' => e = .returned (.int .i64 12) ∧ CdAt w' b big a s j true ∧ w.grownBy w' (some b) := by
  have c3 := h.c3
  have f3 := h.f3
  have h3 := h.set3 j
  have c4 := h3.c4
  have f4 := h3.f4
  have HG : Hid (CdAt ((w.setCell ⟨b, 3, none⟩ (.int .i64 j)).setCell ⟨b, 4, none⟩ (.bool true)) b big a s j true ∧ w.grownBy ((w.setCell ⟨b, 3, none⟩ (.int .i64 j)).setCell ⟨b, 4, none⟩ (.bool true)) (some b)) :=
    Lib.hid ⟨h3.set4 true, (grownBy_setCell2 w ⟨b, 3, none⟩ (.int .i64 j)).trans (grownBy_setCell2 _ ⟨b, 4, none⟩ (.bool true))⟩
  clear h h3
  go_enter Try.func78, Try.ntmps78
  go_wp2_with fail
  go_ret
  exact ⟨rfl, HG.out⟩

set_option maxHeartbeats 400000 in
theorem ready_any (b : Nat) (big : Bool) (a : Int) (s : ByteArray) (i : Nat) (wr : Bool) (w : World) (h : CdAt w b big a s i wr) :
    Calls Try.prog 79 #[.pointer (some ⟨b, 0, none⟩)] w fun e w' => e = .returned (.int .i64 (errW wr)) ∧ w = w' := by
  have c4 := h.c4
  clear h
  cases wr
  · go_enter Try.func79, Try.ntmps79
    go_wp2_with fail
    go_ret
    exact ⟨rfl, rfl⟩
  · go_enter Try.func79, Try.ntmps79
    go_wp2_with fail
    go_ret
    exact ⟨rfl, rfl⟩

theorem byte_at (s : ByteArray) (q : Nat) (h : q < s.size) : (bytesOf s)[q]? = some s[q] := by
  have h1 : q < (bytesOf s).length := by rw [bytesOf_length]; exact h
  rw [List.getElem?_eq_getElem h1]
  rfl

set_option maxRecDepth 100000 in
set_option maxHeartbeats 800000 in
theorem zeros_none (s : ByteArray) (i p : Nat) (f : Value) (w : World) (hs : s.size ≤ 1000000) (hi : i ≤ s.size) (hp : p ≤ 8) (h : firstBad (bytesOf s) i p = none) :
    Calls Try.prog 82 #[.string s, .int .i64 i, .int .i64 p, f] w fun e w' => e = .returned (.int .i64 0) ∧ w = w' := by
  have H0 := Lib.hid h
  clear h
  go_enter Try.func82, Try.ntmps82
  go_wp2_with fail
  go_loop [9] (fun v => ∃ q : Nat, v = .int .i64 q ∧ i ≤ q ∧ q ≤ i + p ∧ q ≤ s.size ∧ Hid (firstBad (bytesOf s) q (i + p - q) = none)) (fun v => i + p - (intOf v).toNat)
  case atStart => exact ⟨i, rfl, Nat.le_refl _, by omega, hi, Lib.hid (by rw [show i + p - i = p by omega]; exact H0.out)⟩
  case round =>
    obtain ⟨q, rfl, h1, h2, h3, HB⟩ := hrel
    by_cases hlt : q < i + p
    · have hz : (bytesOf s)[q]? = some 0 := by
        by_cases hc : (bytesOf s)[q]? = some 0
        · exact hc
        · have := HB.out
          rw [show i + p - q = (i + p - q - 1) + 1 by omega, firstBad_stop _ _ _ hc] at this
          cases this
      have hqs : q < s.size := by have := at_lt hz; rwa [bytesOf_length] at this
      have hb : s[q] = 0 := by rw [byte_at s q hqs] at hz; simpa using hz
      have HB2 : Hid (firstBad (bytesOf s) (q + 1) (i + p - (q + 1)) = none) := Lib.hid (by
        have := HB.out
        rw [show i + p - q = (i + p - (q + 1)) + 1 by omega, firstBad_step _ _ _ hz] at this
        exact this)
      have g1 : ((q : Int) == (s.size : Int)) = false := by simp; omega
      have g2 : ((s[q].toNat : Int) != 0) = false := by rw [hb]; rfl
      clear hz hb
      go_wp2_with fail
      exact ⟨⟨q + 1, by go_num, by omega, by omega, hqs, HB2⟩, by simp [intOf]; omega⟩
    · go_wp2_with fail
      go_ret
      exact ⟨rfl, rfl⟩

set_option maxRecDepth 100000 in
set_option maxHeartbeats 800000 in
theorem zeros_some (b : Nat) (big : Bool) (a : Int) (s : ByteArray) (i0 : Nat) (wr : Bool) (i p j : Nat) (w : World) (hc : CdAt w b big a s i0 wr) (hs : s.size ≤ 1000000) (hi : i ≤ s.size) (hp : p ≤ 8) (h : firstBad (bytesOf s) i p = some j) :
    Calls Try.prog 82 #[.string s, .int .i64 i, .int .i64 p, .func (.func 78) #[.pointer (some ⟨b, 0, none⟩)] #[]] w fun e w' => e = .returned (.int .i64 12) ∧ CdAt w' b big a s j true ∧ w.grownBy w' (some b) := by
  have H0 := Lib.hid h
  have HC := Lib.hid hc
  clear h hc
  go_enter Try.func82, Try.ntmps82
  go_wp2_with fail
  go_loop [9] (fun v => ∃ q : Nat, v = .int .i64 q ∧ i ≤ q ∧ q ≤ i + p ∧ q ≤ s.size ∧ Hid (firstBad (bytesOf s) q (i + p - q) = some j)) (fun v => i + p - (intOf v).toNat)
  case atStart => exact ⟨i, rfl, Nat.le_refl _, by omega, hi, Lib.hid (by rw [show i + p - i = p by omega]; exact H0.out)⟩
  case round =>
    obtain ⟨q, rfl, h1, h2, h3, HB⟩ := hrel
    by_cases hlt : q < i + p
    · by_cases hz : (bytesOf s)[q]? = some 0
      · have hqs : q < s.size := by have := at_lt hz; rwa [bytesOf_length] at this
        have hb : s[q] = 0 := by rw [byte_at s q hqs] at hz; simpa using hz
        have HB2 : Hid (firstBad (bytesOf s) (q + 1) (i + p - (q + 1)) = some j) := Lib.hid (by
          have := HB.out
          rw [show i + p - q = (i + p - (q + 1)) + 1 by omega, firstBad_step _ _ _ hz] at this
          exact this)
        have g1 : ((q : Int) == (s.size : Int)) = false := by simp; omega
        have g2 : ((s[q].toNat : Int) != 0) = false := by rw [hb]; rfl
        clear hz hb
        go_wp2_with fail
        exact ⟨⟨q + 1, by go_num, by omega, by omega, hqs, HB2⟩, by simp [intOf]; omega⟩
      · have hj : q = j := by
          have := HB.out
          rw [show i + p - q = (i + p - q - 1) + 1 by omega, firstBad_stop _ _ _ hz] at this
          simpa using this
        subst hj
        have ST := Lib.hid (stop_any b big a s i0 wr q w HC.out)
        by_cases hqs : q < s.size
        · have g1 : ((q : Int) == (s.size : Int)) = false := by simp; omega
          have g2 : ((s[q].toNat : Int) != 0) = true := by
            rw [byte_at s q hqs] at hz
            have h0 : s[q].toNat ≠ 0 := fun e => hz (by rw [show s[q] = 0 from UInt8.toNat.inj (by simpa using e)])
            simp; omega
          clear hz
          go_wp2_with (go_at_call 78; refine ST.out.mono ?_; rintro e w1 ⟨rfl, hh1, hg1⟩; have G1 := Lib.hid hg1; have HH1 := Lib.hid hh1; clear hg1 hh1)
          go_ret
          exact ⟨rfl, HH1.out, G1.out⟩
        · have g1 : ((q : Int) == (s.size : Int)) = true := by simp; omega
          clear hz
          go_wp2_with (go_at_call 78; refine ST.out.mono ?_; rintro e w1 ⟨rfl, hh1, hg1⟩; have G1 := Lib.hid hg1; have HH1 := Lib.hid hh1; clear hg1 hh1)
          go_ret
          exact ⟨rfl, HH1.out, G1.out⟩
    · have := HB.out
      rw [show i + p - q = 0 by omega, firstBad_zero] at this
      cases this

end Go.Proofs.Ytdklmeamhcgohaa
