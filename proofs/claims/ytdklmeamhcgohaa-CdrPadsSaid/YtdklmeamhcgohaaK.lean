/-
  PROVED HERE: what Swap of the reference returns: what Swap of package cdr does, for all texts of up to 2000 bytes and all numbers.
-/
import Derived.Test.YtdklmeamhcgohaaJ
namespace Go.Proofs.Ytdklmeamhcgohaa
open Go.RowKit

set_option maxRecDepth 100000 in
set_option maxHeartbeats 800000 in
theorem swap36 (s : ByteArray) (n : Int) (w : World) (hs : s.size ≤ 2000) :
    Calls Try.prog 36 #[.string s, .int .i64 n] w fun e w' => e = .returned (.tuple #[.string (swS s n), .int .i64 (swE s n)]) ∧ Below w.heap.size w w' := by
  obtain ⟨r, hr⟩ : ∃ r, szB n = r := ⟨_, rfl⟩
  have HR := Lib.hid hr
  cases r
  · have HV : Hid (⟨#[]⟩ = swS s n) := Lib.hid (by simp [swS, hr])
    have HE : Hid (7 = swE s n) := Lib.hid (by simp [swE, hr])
    clear hr
    go_enter Try.func36, Try.ntmps36
    go_wp2_with (go_at_call 83; refine (refSize_any _ _).mono ?_; rintro e w1 ⟨rfl, rfl⟩; rw [HR.out])
    go_ret2
    exact ⟨ret_sw HV.out HE.out, Below.refl _ _⟩
  · have hn := (szB_iff n).1 hr
    have hn1 : 1 ≤ n := by omega
    have hn8 : n ≤ 8 := by omega
    by_cases hd : (s.size : Int) % n = 0
    · have HV : Hid (⟨(swL s.data.toList n.toNat).toArray⟩ = swS s n) := Lib.hid (by simp [swS, hr, hd])
      have HE : Hid (0 = swE s n) := Lib.hid (by simp [swE, hr, hd])
      clear hr hn
      obtain ⟨m, rfl⟩ : ∃ m : Nat, n = (m : Int) := ⟨n.toNat, by omega⟩
      simp only [Int.toNat_natCast] at HV
      have hbs := run_bytes_of_string (P := Try.prog) w 9 54 5 s Try.underlying9 Try.underlying54 Try.underlying5
      have hr0 := RowAt.ofText w.drew s (grownCap w s.size 0 5)
      have hb0 : Below w.heap.size w (w.drew.alloc (.cells (bytesRow s (grownCap w s.size 0 5)) 5 ((bytesRow s (grownCap w s.size 0 5)).size, (bytesRow s (grownCap w s.size 0 5)).size + 1))) := ((Below.refl _ _).drew).alloc (Nat.le_refl _) _
      rw [show s.data.toList = swFrom s.data.toList m 0 from (swFrom_zero _ _).symm] at hr0
      generalize w.drew.alloc (.cells (bytesRow s (grownCap w s.size 0 5)) 5 ((bytesRow s (grownCap w s.size 0 5)).size, (bytesRow s (grownCap w s.size 0 5)).size + 1)) = w2 at hbs hr0 hb0
      generalize grownCap w s.size 0 5 = cap at hbs
      have hr0 : RowAt w2 w.heap.size (swFrom s.data.toList m 0) := hr0
      obtain ⟨g, hg⟩ : ∃ g, w.heap.size = g := ⟨_, rfl⟩
      rw [hg] at hbs hr0 hb0
      have HG : Hid (w.heap.size ≤ g) := Lib.hid (by omega)
      rw [hg]
      clear hg
      go_enter Try.func36, Try.ntmps36
      go_wp2_with (go_at_call 83; refine (refSize_any _ _).mono ?_; rintro e w1 ⟨rfl, rfl⟩; rw [HR.out])
      clear hbs
      go_loopw [20] (fun i wr => ∃ k : Nat, i = .int .i64 k ∧ k ≤ s.size ∧ RowAt wr g (swFrom s.data.toList m k) ∧ Below g w wr) (fun i _ => s.size - (intOf i).toNat)
      case atStart => exact ⟨0, rfl, Nat.zero_le _, hr0, hb0⟩
      case round =>
        obtain ⟨k, rfl, hk, hrow, hbel⟩ := hrel
        by_cases hlt : k < s.size
        · have h1 : 0 ≤ (k : Int) % (m : Int) := Int.emod_nonneg _ (by omega)
          have h2 : (k : Int) % (m : Int) < (m : Int) := Int.emod_lt_of_pos _ (by omega)
          have h3 : (k : Int) % (m : Int) ≤ (k : Int) := by rw [← Int.natCast_emod]; exact Int.ofNat_le.mpr (Nat.mod_le _ _)
          have hm1 : 1 ≤ m := by omega
          have hdn : s.size % m = 0 := by rw [← Int.natCast_emod] at hd; exact Int.ofNat_eq_zero.mp hd
          have hml := mir_lt m k s.size hm1 hdn hlt
          have hmi := mir_int m k hm1
          have hfr := hrow.frozen k (by rw [swFrom_length]; exact hlt)
          obtain ⟨old, hce⟩ : ∃ old : UInt8, wr.cell? ⟨g, k, none⟩ = some (.int .u8 (old.toNat : Int)) := ⟨_, hrow.cell k (by rw [swFrom_length]; exact hlt)⟩
          obtain ⟨q, hq⟩ : ∃ q, mir m k = q := ⟨_, rfl⟩
          rw [hq] at hmi hml
          have HQ := Lib.hid hq
          have HD := Lib.hid hdn
          clear hq hdn
          go_wp2
          go_region
          go_wp2
          refine ⟨⟨k + 1, by go_num, hlt, ?_, (hbel.setCell (p := ⟨g, k, none⟩) (Nat.le_refl g) _).drew⟩, by simp [intOf]; omega⟩
          have hml2 : mir m k < s.data.toList.length := by rw [HQ.out]; exact hml
          have hst := hrow.store k (s.data.toList[mir m k])
          rw [swFrom_step s.data.toList m k hml2] at hst
          simp only [HQ.out] at hst
          exact hst
        · obtain rfl : k = s.size := by omega
          have hcv := hrow.conv (cap := cap)
          rw [show swFrom s.data.toList m s.size = swL s.data.toList m from swFrom_all s.data.toList m, show (swL s.data.toList m).length = s.size from swL_length _ _] at hcv
          go_wp2
          go_ret2
          exact ⟨ret_sw HV.out HE.out, hbel⟩
    · have HV : Hid (⟨#[]⟩ = swS s n) := Lib.hid (by simp [swS, hr, hd])
      have HE : Hid (11 = swE s n) := Lib.hid (by simp [swE, hr, hd])
      clear hr hn
      go_enter Try.func36, Try.ntmps36
      go_wp2_with (go_at_call 83; refine (refSize_any _ _).mono ?_; rintro e w1 ⟨rfl, rfl⟩; rw [HR.out])
      go_ret2
      exact ⟨ret_sw HV.out HE.out, Below.refl _ _⟩
end Go.Proofs.Ytdklmeamhcgohaa
