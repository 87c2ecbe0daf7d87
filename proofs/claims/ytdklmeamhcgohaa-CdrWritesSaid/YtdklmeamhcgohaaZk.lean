/-
  PROVED HERE: what the law's function light returns for acts that lie in memory, whatever their number, each text of at most 2^47 - 4096 bytes; and that the law CdrWrites returns true for them.
-/
import Derived.Test.YtdklmeamhcgohaaZj
namespace Go.Proofs.Ytdklmeamhcgohaa
open Go.RowKit

theorem totTo_bd (l : List ActD) (hs : ∀ i (h : i < l.length), l[i].s.size ≤ 140737488351232) : ∀ k, totTo l k ≤ k * 140737488351232
  | 0 => by rw [totTo_zero]; omega
  | k + 1 => by
    have ih := totTo_bd l hs k
    by_cases h : k < l.length
    · have h1 := totTo_succ l k h
      have h2 := hs k h
      omega
    · have h1 : totTo l (k + 1) = totTo l k := by
        unfold totTo
        rw [List.take_of_length_le (by omega), List.take_of_length_le (by omega)]
      omega

/-- What light adds up: the sum, as long as it is one of 60 acts at most. -/
structure SumAt (l : List ActD) (k : Nat) (v : Int) : Prop where
  lo : -9223372036854775808 ≤ v
  hi : v ≤ 9223372036854775807
  eq : k ≤ 60 → v = (totTo l k : Nat)

theorem SumAt.next {l : List ActD} {k : Nat} {v : Int} (hs : ∀ i (h : i < l.length), l[i].s.size ≤ 140737488351232) (h : SumAt l k v) (hk : k < l.length) : SumAt l (k + 1) (wrap64 (v + (l[k].s.size : Int))) := by
  refine ⟨by unfold wrap64; omega, by unfold wrap64; omega, fun h60 => ?_⟩
  have h1 := h.eq (by omega)
  have h2 := totTo_bd l hs k
  have h3 := hs k hk
  have h4 := totTo_succ l k hk
  rw [h1]
  unfold wrap64
  omega

set_option maxRecDepth 100000 in
set_option maxHeartbeats 1600000 in
theorem light_wide (b off cap : Nat) (l : List ActD) (w : World) (h : ActsAt w b off l) (hb : b < w.heap.size) (hl : l.length ≤ maxLen) (hs : ∀ i (h : i < l.length), l[i].s.size ≤ 140737488351232) :
    Calls Try.prog 9 #[.slice (some ⟨b, off, none⟩) l.length cap] w fun e w' => e = .returned (.bool (decide (l.length ≤ 60) && decide (totTo l l.length ≤ 300000))) ∧ Below w.heap.size w w' := by
  have H := Lib.hid h
  have HS := Lib.hid hs
  have hl2 : l.length ≤ 9223372036854775807 := by unfold maxLen at hl; omega
  have HL := Lib.hid hl2
  clear h hs hl hl2
  go_enter Try.func9, Try.ntmps9
  go_wp2_with fail
  go_loopw [3, 8] (fun n i wr => ∃ (k : Nat) (v : Int), i = .int .i64 k ∧ n = .int .i64 v ∧ SumAt l k v ∧ k ≤ l.length ∧ Below w.heap.size w wr) (fun _ i _ => l.length - (intOf i).toNat)
  case atStart => exact ⟨0, 0, rfl, rfl, ⟨by omega, by omega, fun _ => by rw [totTo_zero]; rfl⟩, Nat.zero_le _, Below.refl _ _⟩
  case round =>
    obtain ⟨k, v, rfl, rfl, hv, hk, hbel⟩ := hrel
    have HV := Lib.hid hv
    clear hv
    by_cases hlt : k < l.length
    · obtain ⟨c0, c1, c2, c3⟩ := (H.out.below hbel hb) k hlt
      have HN := Lib.hid (HV.out.next HS.out hlt)
      generalize l[k].s = s at c3 HN
      generalize l[k].k = kk at c0
      generalize l[k].n = nn at c1
      generalize l[k].m = mm at c2
      have hk64 : (k : Int) + 1 ≤ 9223372036854775807 := by have := HL.out; omega
      go_wp2_with fail
      exact ⟨⟨k + 1, _, by go_num, rfl, HN.out, hlt, hbel.alloc hbel.size _⟩, by simp [intOf]; omega⟩
    · obtain rfl : k = l.length := by omega
      obtain ⟨t, htt⟩ : ∃ t, totTo l l.length = t := ⟨_, rfl⟩
      have hv := HV.out.eq
      have hgoal : (decide (l.length ≤ 60) && decide (totTo l l.length ≤ 300000)) = (decide (l.length ≤ 60) && decide (t ≤ 300000)) := by rw [htt]
      have HG := Lib.hid hgoal
      clear hgoal
      rw [htt] at hv
      have HT := Lib.hid htt
      have HQ := Lib.hid hv
      clear htt hv
      by_cases h60 : l.length ≤ 60
      · have hvt := HQ.out h60
        have HB : Hid (decide (v ≤ 300000) = (decide (l.length ≤ 60) && decide (t ≤ 300000))) := Lib.hid (by rw [decide_eq_true h60, Bool.true_and]; exact decide_eq_decide.mpr (by omega))
        have h61 : (l.length : Int) ≤ 60 := by omega
        clear hvt
        go_wp2_with fail
        go_ret
        exact ⟨ret_bool (HB.out.trans HG.out.symm), hbel⟩
      · have HB : Hid (false = (decide (l.length ≤ 60) && decide (t ≤ 300000))) := Lib.hid (by simp [h60])
        have h61 : ¬ (l.length : Int) ≤ 60 := by omega
        go_wp2_with fail
        go_ret
        first | exact ⟨rfl, hbel⟩ | exact ⟨ret_bool (HB.out.trans HG.out.symm), hbel⟩
end Go.Proofs.Ytdklmeamhcgohaa
