/-
  PROVED HERE: two readers that lie apart, one of package cdr and one of the reference; what the methods of no reader return.
-/
import Derived.Test.YtdklmeamhcgohaaRt
namespace Go.Proofs.Ytdklmeamhcgohaa
open Go.RowKit

/-- What an act leaves of the bytes is within them. -/
theorem textOf_bd (r : RR) (N : Nat) (h : r.i ≤ N) (h2 : r.w = false → r.t.size ≤ r.i) : (textOf r).i ≤ N := by
  cases hw : r.w with
  | true => rw [textOf_wrong r hw]; exact h
  | false =>
    have h3 := h2 hw
    by_cases h4 : Lib.indexByte (bytesOf r.t) 0 < 0
    · rw [textOf_none r hw h4]; simp only; omega
    · by_cases h5 : Lib.indexByte (bytesOf r.t) 0 < (r.t.size : Int) - 1
      · rw [textOf_mid r hw h4 h5]; simp only; omega
      · rw [textOf_ok r hw h4 h5]; exact h

theorem rdA_bd (s : ByteArray) (big : Bool) (a k n : Int) (i : Nat) (wr : Bool) (hi : i ≤ s.size) : (rdA s big a k n i wr).i ≤ s.size := by
  have nb : ∀ q, (numR (bytesOf s) big a q i wr).1 ≤ s.size := fun q => by
    have := (numR_bd (bytesOf s) big a q i wr (by rw [bytesOf_length]; exact hi)).2.1
    rwa [bytesOf_length] at this
  unfold rdA
  by_cases k0 : k = 0
  · rw [if_pos k0]; exact nb 1
  rw [if_neg k0]
  by_cases k1 : k = 1
  · rw [if_pos k1]
    unfold flagA
    have := nb 1
    cases h : (numR (bytesOf s) big a 1 i wr).2.1 with
    | true => rw [flagOf_wrong _ h]; exact this
    | false =>
      by_cases h2 : 1 < (numR (bytesOf s) big a 1 i wr).2.2
      · rw [flagOf_two _ h h2]; simp only; omega
      · rw [flagOf_ok _ h h2]; exact this
  rw [if_neg k1]
  by_cases k2 : k = 2
  · rw [if_pos k2]; exact nb 2
  rw [if_neg k2]
  by_cases k3 : k = 3
  · rw [if_pos k3]; exact nb 4
  rw [if_neg k3]
  by_cases k4 : k = 4
  · rw [if_pos k4]; exact nb 8
  rw [if_neg k4]
  by_cases k5 : k = 5
  · rw [if_pos k5]
    obtain ⟨h1, h2, _⟩ := cntOf_bd s 1 (numR (bytesOf s) big a 4 i wr) (nb 4)
    exact textOf_bd _ _ h1 (fun h => (h2 h).2)
  rw [if_neg k5]
  by_cases k6 : k = 6
  · rw [if_pos k6]; exact (cntOf_bd s 0 (numR (bytesOf s) big a 4 i wr) (nb 4)).1
  rw [if_neg k6]
  by_cases k7 : k = 7
  · rw [if_pos k7]
    cases wr
    · by_cases h1 : n < 0
      · rw [rawA_neg s n i h1]; exact hi
      · by_cases h2 : (s.size : Int) - i < n
        · rw [rawA_end s n i h1 h2]; exact Nat.le_refl _
        · rw [rawA_ok s n i h1 h2]; simp only; omega
    · rw [rawA_wrong]; exact hi
  rw [if_neg k7]
  cases wr
  · cases hz : szB n with
    | false => rw [algA_size s a n i hz]; exact hi
    | true =>
      have hn := (szB_iff n).1 hz
      obtain ⟨q, rfl⟩ : ∃ q : Nat, n = (q : Int) := ⟨n.toNat, by omega⟩
      cases hf : firstBad (bytesOf s) i (padK' a i q) with
      | some j =>
        rw [algA_some s a q i j hz hf]
        have := (firstBad_some _ _ _ _ (by rw [bytesOf_length]; exact hi) hf).2.2
        rwa [bytesOf_length] at this
      | none =>
        rw [algA_none s a q i hz hf]
        have := firstBad_none _ _ _ (by rw [bytesOf_length]; exact hi) hf
        rwa [bytesOf_length] at this
  · rw [algA_wrong]; exact hi

/-- TWO READERS NEWER THAN W0 THAT LIE APART, at the same byte. -/
structure PairR (W0 W : World) (b1 b2 : Nat) (big : Bool) (a : Int) (s : ByteArray) (i : Nat) (wr : Bool) : Prop where
  pa : CdAt W b1 big a s i wr
  pb : RdAt W b2 big a s i wr
  ne : b1 ≠ b2
  la : W0.heap.size ≤ b1
  lb : W0.heap.size ≤ b2
  below : Below W0.heap.size W0 W

theorem below_then {W0 W W' : World} {b : Nat} (h : Below W0.heap.size W0 W) (hg : W.grownBy W' (some b)) (hb : W0.heap.size ≤ b) : Below W0.heap.size W0 W' :=
  ⟨hg.os.trans h.os, hg.tape.trans h.tape, hg.output.trans h.output, Nat.le_trans h.size hg.size, fun k hk => (hg.block k (Nat.lt_of_lt_of_le hk h.size) (by simp; omega)).trans (h.block k hk)⟩

theorem PairR.both {W0 W W1 W2 : World} {b1 b2 : Nat} {big : Bool} {a : Int} {s : ByteArray} {i : Nat} {wr : Bool} {R : RR} (h : PairR W0 W b1 b2 big a s i wr) (h1 : RG W b1 big a s R W1) (h2 : SGR W1 b2 big a s R W2) : PairR W0 W2 b1 b2 big a s R.i R.w :=
  ⟨h1.1.kept h2.2 (by simp; exact h.ne), h2.1, h.ne, h.la, h.lb, below_then (below_then h.below h1.2 h.la) h2.2 h.lb⟩
theorem PairR.second {W0 W W1 : World} {b1 b2 : Nat} {big : Bool} {a : Int} {s : ByteArray} {i : Nat} {wr : Bool} {R : RR} (h : PairR W0 W b1 b2 big a s i wr) (h1 : RG W b1 big a s R W1) : RdAt W1 b2 big a s i wr := h.pb.kept h1.2 (by simp; exact h.ne.symm)
theorem PairR.later {W0 W W' : World} {b1 b2 : Nat} {big : Bool} {a : Int} {s : ByteArray} {i : Nat} {wr : Bool} (h : PairR W0 W b1 b2 big a s i wr) (hb : Below W.heap.size W W') : PairR W0 W' b1 b2 big a s i wr :=
  ⟨h.pa.below hb h.pa.lt, h.pb.below hb h.pb.lt, h.ne, h.la, h.lb, h.below.trans (hb.mono h.below.size)⟩

/-! ### No reader -/

theorem cbad_nil (w : World) : Calls Try.prog 29 #[.pointer none] w fun e w' => e = .returned (.int .i64 0) ∧ w = w' := by
  go_enter Try.func29, Try.ntmps29
  go_wp2
  go_ret
  exact ⟨rfl, rfl⟩
theorem cleft_nil (w : World) : Calls Try.prog 27 #[.pointer none] w fun e w' => e = .returned (.int .i64 0) ∧ w = w' := by
  go_enter Try.func27, Try.ntmps27
  go_wp2
  go_ret
  exact ⟨rfl, rfl⟩
theorem ready_nil (w : World) : Calls Try.prog 79 #[.pointer none] w fun e w' => e = .returned (.int .i64 1) ∧ w = w' := by
  go_enter Try.func79, Try.ntmps79
  go_wp2
  go_ret
  exact ⟨rfl, rfl⟩
theorem calign_nil (n : Int) (w : World) : Calls Try.prog 32 #[.pointer none, .int .i64 n] w fun e w' => e = .returned (.int .i64 1) ∧ w = w' := by
  go_enter Try.func32, Try.ntmps32
  go_wp2_with (go_at_call 79; refine (ready_nil _).mono ?_; rintro e w1 ⟨rfl, rfl⟩)
  go_ret
  exact ⟨rfl, rfl⟩
theorem cnumber_nil (n : Int) (w : World) : Calls Try.prog 98 #[.pointer none, .int .i64 n] w fun e w' => e = .returned (.tuple #[.int .u64 0, .int .i64 1]) ∧ Below w.heap.size w w' := by
  go_enter Try.func98, Try.ntmps98
  go_wp2_with (go_at_call 32; refine (calign_nil _ _).mono ?_; rintro e w1 ⟨rfl, rfl⟩)
  go_ret2
  exact ⟨rfl, (Below.refl _ _).alloc (Nat.le_refl _) _⟩
theorem clong_nil (w : World) : Calls Try.prog 63 #[.pointer none] w fun e w' => e = .returned (.tuple #[.int .i64 0, .int .i64 1]) ∧ Below w.heap.size w w' := by
  go_enter Try.func63, Try.ntmps63
  go_wp2_with (go_at_call 98; refine (cnumber_nil _ _).mono ?_; rintro e w1 ⟨rfl, hb⟩; have HB := Lib.hid hb; clear hb)
  go_ret2
  exact ⟨rfl, HB.out⟩
theorem ccount_nil (m : Int) (w : World) : Calls Try.prog 76 #[.pointer none, .int .i64 m] w fun e w' => e = .returned (.tuple #[.string ⟨#[]⟩, .int .i64 1]) ∧ Below w.heap.size w w' := by
  go_enter Try.func76, Try.ntmps76
  go_wp2_with (go_at_call 63; refine (clong_nil _).mono ?_; rintro e w1 ⟨rfl, hb⟩; have HB := Lib.hid hb; clear hb)
  go_ret2
  exact ⟨rfl, HB.out⟩
theorem ctext_nil (w : World) : Calls Try.prog 31 #[.pointer none] w fun e w' => e = .returned (.tuple #[.string ⟨#[]⟩, .int .i64 1]) ∧ Below w.heap.size w w' := by
  go_enter Try.func31, Try.ntmps31
  go_wp2_with (go_at_call 76; refine (ccount_nil _ _).mono ?_; rintro e w1 ⟨rfl, hb⟩; have HB := Lib.hid hb; clear hb)
  go_ret2
  exact ⟨rfl, HB.out⟩

end Go.Proofs.Ytdklmeamhcgohaa
