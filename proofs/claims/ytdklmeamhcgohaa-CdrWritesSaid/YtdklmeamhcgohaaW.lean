/-
  PROVED HERE: what Zero, Text and Bytes of the reference return and write: what Text and Bytes of package cdr do.
-/
import Derived.Test.YtdklmeamhcgohaaV
import Derived.Lib.IndexLaws
import Derived.Lib.Bytealg
namespace Go.Proofs.Ytdklmeamhcgohaa
open Go.RowKit

theorem zeroIn_false (s : ByteArray) : zeroIn s = false ↔ ∀ k : Nat, s.data.toList[k]? ≠ some 0 := by
  unfold zeroIn
  have hge := Lib.indexByte_ge s.data.toList ((0 : Int).toNat.toUInt8)
  constructor
  · intro h
    have h1 : Lib.indexByte s.data.toList ((0 : Int).toNat.toUInt8) = -1 := by
      have := of_decide_eq_false h
      omega
    exact Lib.indexByte_none h1
  · intro h
    apply decide_eq_false
    intro h2
    obtain ⟨o, ho⟩ : ∃ o : Nat, Lib.indexByte s.data.toList ((0 : Int).toNat.toUInt8) = o := ⟨_, (Int.toNat_of_nonneg h2).symm⟩
    exact h o (Lib.indexByte_some ho).1

set_option maxRecDepth 100000 in
set_option maxHeartbeats 800000 in
theorem zero_any (s : ByteArray) (w : World) (hs : s.size ≤ 1000000) :
    Calls Try.prog 89 #[.string s] w fun e w' => w = w' ∧ ∃ z : Nat, e = .returned (.int .i64 z) ∧ z ≤ s.size ∧ (zeroIn s = true ↔ z < s.size) := by
  have hz : (∀ k : Nat, s.data.toList[k]? ≠ some 0) → zeroIn s = false := (zeroIn_false s).2
  have hz2 : zeroIn s = false → ∀ k : Nat, s.data.toList[k]? ≠ some 0 := (zeroIn_false s).1
  have HZ := Lib.hid hz
  have HZ2 := Lib.hid hz2
  clear hz hz2
  go_enter Try.func89, Try.ntmps89
  go_wp2_with fail
  go_loop [6] (fun i => ∃ k : Nat, i = .int .i64 k ∧ k ≤ s.size ∧ ∀ j, j < k → s.data.toList[j]? ≠ some 0) (fun i => s.size - (intOf i).toNat)
  case atStart => exact ⟨0, rfl, Nat.zero_le _, fun j hj => by omega⟩
  case round =>
    obtain ⟨k, rfl, hk, hall⟩ := hrel
    have HA := Lib.hid hall
    clear hall
    by_cases hlt : k < s.size
    · have hl : s.data.toList[k]? = some s[k] := by
        have h1 : k < s.data.toList.length := hlt
        rw [List.getElem?_eq_getElem h1]
        rfl
      have HL := Lib.hid hl
      clear hl
      by_cases hb : ((s[k].toNat : Int) == 0) = true
      · have h0 : s[k] = 0 := by
          apply UInt8.toNat.inj
          simpa using hb
        have HZZ : Hid (zeroIn s = true) := Lib.hid (by
          cases hc : zeroIn s
          · exact absurd (HL.out.trans (congrArg some h0)) (HZ2.out hc k)
          · rfl)
        clear h0
        go_wp2_with fail
        go_ret
        exact ⟨rfl, k, rfl, hk, ⟨fun _ => hlt, fun _ => HZZ.out⟩⟩
      · have hb2 : ((s[k].toNat : Int) == 0) = false := by simpa using hb
        have HA2 : Hid (∀ j, j < k + 1 → s.data.toList[j]? ≠ some 0) := Lib.hid (by
          intro j hj
          by_cases e : j < k
          · exact HA.out j e
          · obtain rfl : j = k := by omega
            rw [HL.out]
            intro h
            have h2 : s[j] = 0 := by simpa using h
            rw [h2] at hb2
            simp at hb2)
        clear hb
        go_wp2_with fail
        exact ⟨⟨k + 1, by go_num, hlt, HA2.out⟩, by simp [intOf]; omega⟩
    · obtain rfl : k = s.size := by omega
      have HN : Hid (zeroIn s = false) := Lib.hid (HZ.out fun j hj => by
        by_cases e : j < s.size
        · exact HA.out j e hj
        · have : s.data.toList.length ≤ j := by
            have h3 : s.data.toList.length = s.size := rfl
            omega
          rw [List.getElem?_eq_none this] at hj
          cases hj)
      go_wp2_with fail
      go_ret
      exact ⟨rfl, s.size, rfl, Nat.le_refl _, ⟨fun h => absurd h (by rw [HN.out]; decide), fun h => absurd h (Nat.lt_irrefl _)⟩⟩

set_option maxRecDepth 100000 in
set_option maxHeartbeats 800000 in
theorem rcounted_any (b : Nat) (big : Bool) (a n : Int) (s : ByteArray) (sv : Value) (out : List UInt8) (w : World) (h : RHolds w b big a sv out) (ha : 0 ≤ a) (ha2 : a ≤ 7) (hL : out.length ≤ 65536) (p : Nat) (hp : padN (a + out.length) ((4 : Nat) : Int) = p)
    (hs : s.size ≤ 100000) (r : Bool) (hr : roomB a 4 (4 + s.size) out.length = r) :
    Calls Try.prog 90 #[.pointer (some ⟨b, 0, none⟩), .int .i64 n, .string s] w fun e w' => ∃ sv', e = .returned (.int .i64 (cntC r)) ∧
      RHolds w' b big a sv' (cntOut r out p (numB n big 4 ++ bytesOf s)) ∧ Wrote w w' b sv sv' := by
  have c0 := h.1.c0
  have NB := Lib.hid fun w => number91 n 4 big w (by omega) (by omega)
  have hsz : ((⟨(numB n big 4).toArray⟩ : ByteArray) ++ s).size = 4 + s.size := by rw [ByteArray.size_append, numB_size]
  have PT := Lib.hid fun (W : World) (hW : RHolds W b big a sv out) => put_any b big a ((4 : Nat) : Int) ((⟨(numB n big 4).toArray⟩ : ByteArray) ++ s) sv out W hW ha ha2 hL (by decide) p hp (by rw [hsz]; omega) r (by rw [hsz]; exact hr)
  have hbo : bytesOf ((⟨(numB n big 4).toArray⟩ : ByteArray) ++ s) = numB n big 4 ++ bytesOf s := by simp [bytesOf, ByteArray.data_append]
  rw [hbo] at PT
  have hs4 := numB_size n big 4
  clear hp hr hsz hbo
  obtain ⟨t, ht⟩ : ∃ t, (⟨(numB n big 4).toArray⟩ : ByteArray) = t := ⟨_, rfl⟩
  rw [ht] at NB PT hs4
  clear ht
  go_enter Try.func90, Try.ntmps90
  go_wp2_with (first | (go_at_call 91; refine (NB.out _).mono ?_; rintro e w1 ⟨rfl, hb1⟩) | (go_at_call 87; refine (PT.out _ (h.below hb1)).mono ?_; rintro e w2 ⟨sv', rfl, hh, hw⟩; have HH := Lib.hid hh; have HW := Lib.hid hw; clear hh hw))
  go_ret
  exact ⟨sv', rfl, HH.out, ((Wrote.refl w b sv).below hb1).trans HW.out⟩
end Go.Proofs.Ytdklmeamhcgohaa
