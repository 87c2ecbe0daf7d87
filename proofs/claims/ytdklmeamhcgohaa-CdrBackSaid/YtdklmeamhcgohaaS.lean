/-
  PROVED HERE: what Number of the reference returns: the bytes that the writer of package cdr writes for a number.
-/
import Derived.Test.YtdklmeamhcgohaaQ
import Derived.Test.YtdklmeamhcgohaaJ
namespace Go.Proofs.Ytdklmeamhcgohaa
open Go.RowKit

/-- Where the byte number i of a number stands; which byte stands there. -/
def ix (big : Bool) (s j : Nat) : Nat := if big then s - 1 - j else j
theorem ix_ix (big : Bool) (s j : Nat) (h : j < s) : ix big s (ix big s j) = j := by
  cases big <;> simp [ix]; omega
theorem ix_lt (big : Bool) (s j : Nat) (h : j < s) : ix big s j < s := by
  cases big <;> simp [ix] <;> omega

/-- The byte number i of a number. -/
def byteN (n : Int) (i : Nat) : UInt8 := bt n (mkSh (8 * (i : Int)))
def nbTo (n : Int) (big : Bool) (s k : Nat) : List UInt8 := (List.range s).map fun j => if ix big s j < k then byteN n (ix big s j) else 0
theorem nbTo_length (n : Int) (big : Bool) (s k : Nat) : (nbTo n big s k).length = s := by simp [nbTo]
theorem nbTo_zero (n : Int) (big : Bool) (s : Nat) : nbTo n big s 0 = List.replicate s 0 := by
  apply List.ext_getElem <;> simp [nbTo]
theorem nbTo_step (n : Int) (big : Bool) (s k : Nat) (hk : k < s) : (nbTo n big s k).set (ix big s k) (byteN n k) = nbTo n big s (k + 1) := by
  apply List.ext_getElem
  · simp [nbTo]
  · intro j h1 h2
    simp only [nbTo, List.length_set, List.length_map, List.length_range] at h1
    by_cases hj : ix big s k = j
    · subst hj
      simp [nbTo, ix_ix big s k hk]
    · have hj2 : ix big s j ≠ k := fun e => hj (by rw [← e, ix_ix big s j h1])
      rw [List.getElem_set_ne hj]
      simp only [nbTo, List.getElem_map, List.getElem_range]
      by_cases h : ix big s j < k
      · rw [if_pos h, if_pos (by omega)]
      · rw [if_neg h, if_neg (by omega)]
theorem nbTo_all (n : Int) (big : Bool) (s : Nat) : nbTo n big s s = numB n big s := by
  apply List.ext_getElem
  · simp [nbTo, numB, shs_length]
  · intro j h1 h2
    simp only [nbTo, List.length_map, List.length_range] at h1
    simp only [nbTo, List.getElem_map, List.getElem_range, numB, shs]
    rw [if_pos (ix_lt big s j h1)]
    cases big
    · simp [ix, byteN, sh]
    · have : ((s - 1 - j : Nat) : Int) = (s : Int) - 1 - j := by omega
      simp [ix, byteN, sh, this]

theorem byteN_val (n : Int) (k : Nat) (hk : k < 8) : IntKind.u64.wrap n / 2 ^ (8 * k) % 256 = ((byteN n k).toNat : Int) := by
  have h : IntKind.u64.wrap n = n % (2 ^ 64 : Int) := by simp [IntKind.wrap, IntKind.signed, IntKind.bits]
  have h2 : ((byteN n k).toNat : Int) = n / 2 ^ (8 * k) % 256 := by
    have e : (mkSh (8 * (k : Int))).1.toNat = 8 * k := by rw [mkSh_val _ (by omega)]; omega
    have := bt_val n (mkSh (8 * (k : Int)))
    rw [e] at this
    exact this
  rw [h, h2]
  have : k = 0 ∨ k = 1 ∨ k = 2 ∨ k = 3 ∨ k = 4 ∨ k = 5 ∨ k = 6 ∨ k = 7 := by omega
  rw [show (2 : Int) ^ 64 = 18446744073709551616 from rfl]
  rcases this with rfl | rfl | rfl | rfl | rfl | rfl | rfl | rfl
  · rw [show (2 : Int) ^ (8 * 0) = 1 from rfl]; omega
  · rw [show (2 : Int) ^ (8 * 1) = 256 from rfl]; omega
  · rw [show (2 : Int) ^ (8 * 2) = 65536 from rfl]; omega
  · rw [show (2 : Int) ^ (8 * 3) = 16777216 from rfl]; omega
  · rw [show (2 : Int) ^ (8 * 4) = 4294967296 from rfl]; omega
  · rw [show (2 : Int) ^ (8 * 5) = 1099511627776 from rfl]; omega
  · rw [show (2 : Int) ^ (8 * 6) = 281474976710656 from rfl]; omega
  · rw [show (2 : Int) ^ (8 * 7) = 72057594037927936 from rfl]; omega

set_option maxRecDepth 100000 in
set_option maxHeartbeats 800000 in
theorem number91 (n : Int) (s : Nat) (big : Bool) (w : World) (hs : 1 ≤ s) (hs8 : s ≤ 8) :
    Calls Try.prog 91 #[.int .i64 n, .int .i64 s, .bool big] w fun e w' => e = .returned (.string ⟨(numB n big s).toArray⟩) ∧ Below w.heap.size w w' := by
  have hmk := Go.run_make_row' (P := Try.prog) 54 5 (.int .u8 0) 1 Try.underlying54 Try.info5b rfl .i64 .i64 s (by omega) (by omega)
  have hr0 := RowAt.made w s
  have hb0 : Below w.heap.size w (w.alloc (.cells (madeCells #[.int .u8 0] s) 5)) := (Below.refl _ _).alloc (Nat.le_refl _) _
  rw [← nbTo_zero n big s] at hr0
  obtain ⟨g, hg⟩ : ∃ g, w.heap.size = g := ⟨_, rfl⟩
  have hm2 := hmk w
  rw [hg] at hr0 hb0 hm2
  rw [hg]
  clear hmk
  generalize w.alloc (.cells (madeCells #[.int .u8 0] s) 5) = w2 at hr0 hb0 hm2
  clear hg
  go_enter Try.func91, Try.ntmps91
  go_wp2_with fail
  clear hm2
  go_loopw [13] (fun i wr => ∃ k : Nat, i = .int .i64 k ∧ k ≤ s ∧ RowAt wr g (nbTo n big s k) ∧ Below g w wr) (fun i _ => s - (intOf i).toNat)
  case atStart => exact ⟨0, rfl, Nat.zero_le _, hr0, hb0⟩
  case round =>
    obtain ⟨k, rfl, hk, hrow, hbel⟩ := hrel
    by_cases hlt : k < s
    · have hix := ix_lt big s k hlt
      have hfr := hrow.frozen (ix big s k) (by rw [nbTo_length]; exact hix)
      obtain ⟨old, hce⟩ : ∃ old : UInt8, wr.cell? ⟨g, ix big s k, none⟩ = some (.int .u8 (old.toNat : Int)) := ⟨_, hrow.cell (ix big s k) (by rw [nbTo_length]; exact hix)⟩
      have hst := hrow.store (ix big s k) (byteN n k)
      rw [nbTo_step n big s k hlt, ← byteN_val n k (by omega)] at hst
      have HST := Lib.hid hst
      clear hst hrow
      cases big
      · simp only [ix, Bool.false_eq_true, if_false] at hfr hce hix HST
        go_wp2_with fail
        exact ⟨⟨k + 1, by go_num, hlt, HST.out, hbel.setCell (p := ⟨g, k, none⟩) (Nat.le_refl g) _⟩, by simp [intOf]; omega⟩
      · simp only [ix, if_true] at hfr hce hix HST
        have e1 : ((s - 1 - k : Nat) : Int) = (s : Int) - 1 - k := by omega
        obtain ⟨q, hq⟩ : ∃ q, s - 1 - k = q := ⟨_, rfl⟩
        rw [hq] at hfr hce hix HST e1
        have e2 : (s : Int) - 1 - k = q := e1.symm
        clear hq e1
        go_wp2_with fail
        exact ⟨⟨k + 1, by go_num, hlt, HST.out, hbel.setCell (p := ⟨g, q, none⟩) (Nat.le_refl g) _⟩, by simp [intOf]; omega⟩
    · obtain rfl : k = s := by omega
      have hcv := hrow.conv (cap := k)
      rw [nbTo_all, show (numB n big k).length = k from by simp [numB, shs_length]] at hcv
      go_wp2_with fail
      go_ret
      exact ⟨rfl, hbel⟩
end Go.Proofs.Ytdklmeamhcgohaa
