/-
  PROVED HERE: what the law's function light returns for acts that lie in memory, where their texts have at most 1048576 bytes in all.
-/
import Derived.Test.YtdklmeamhcgohaaZf
namespace Go.Proofs.Ytdklmeamhcgohaa
open Go.RowKit

/-- An act. -/
structure ActD where
  k : Int
  n : Int
  m : Int
  s : ByteArray
  deriving Inhabited

/-- Acts lie at a place. -/
def ActsAt (W : World) (b off : Nat) (l : List ActD) : Prop := ∀ i (h : i < l.length), W.cell? ⟨b, off + i * 4, none⟩ = some (.int .i64 l[i].k) ∧ W.cell? ⟨b, off + i * 4 + 1, none⟩ = some (.int .i64 l[i].n) ∧
  W.cell? ⟨b, off + i * 4 + 2, none⟩ = some (.int .i64 l[i].m) ∧ W.cell? ⟨b, off + i * 4 + 3, none⟩ = some (.string l[i].s)

theorem ActsAt.below {W W' : World} {B b off : Nat} {l : List ActD} (h : ActsAt W b off l) (hb : Below B W W') (hB : b < B) : ActsAt W' b off l := fun i hi => by
  obtain ⟨h0, h1, h2, h3⟩ := h i hi
  exact ⟨(hb.cell hB).trans h0, (hb.cell hB).trans h1, (hb.cell hB).trans h2, (hb.cell hB).trans h3⟩

/-- How many bytes the texts of the first k acts have. -/
def totTo (l : List ActD) (k : Nat) : Nat := ((l.take k).map fun x => x.s.size).sum
theorem totTo_zero (l : List ActD) : totTo l 0 = 0 := by simp [totTo]
theorem totTo_succ (l : List ActD) (k : Nat) (h : k < l.length) : totTo l (k + 1) = totTo l k + l[k].s.size := by
  unfold totTo
  rw [List.take_succ_eq_append_getElem h, List.map_append, List.sum_append]
  simp only [List.map_cons, List.map_nil, List.sum_cons, List.sum_nil, Nat.add_zero]
theorem totTo_le (l : List ActD) (k : Nat) : totTo l k ≤ totTo l l.length := by
  unfold totTo
  rw [List.take_length]
  conv => rhs; rw [← List.take_append_drop k l]
  rw [List.map_append, List.sum_append]
  omega

set_option maxRecDepth 100000 in
set_option maxHeartbeats 1600000 in
theorem light_any (b off cap : Nat) (l : List ActD) (w : World) (h : ActsAt w b off l) (hb : b < w.heap.size) (hl : l.length ≤ 1048576) (ht : totTo l l.length ≤ 1048576) :
    Calls Try.prog 9 #[.slice (some ⟨b, off, none⟩) l.length cap] w fun e w' => e = .returned (.bool (decide (l.length ≤ 60) && decide (totTo l l.length ≤ 300000))) ∧ Below w.heap.size w w' := by
  have H := Lib.hid h
  clear h
  go_enter Try.func9, Try.ntmps9
  go_wp2_with fail
  go_loopw [3, 8] (fun n i wr => ∃ k : Nat, i = .int .i64 k ∧ n = .int .i64 (totTo l k : Nat) ∧ k ≤ l.length ∧ Below w.heap.size w wr) (fun _ i _ => l.length - (intOf i).toNat)
  case atStart => exact ⟨0, rfl, by rw [totTo_zero]; rfl, Nat.zero_le _, Below.refl _ _⟩
  case round =>
    obtain ⟨k, rfl, rfl, hk, hbel⟩ := hrel
    by_cases hlt : k < l.length
    · obtain ⟨c0, c1, c2, c3⟩ := (H.out.below hbel hb) k hlt
      have hle := totTo_le l (k + 1)
      have hsu := totTo_succ l k hlt
      have HS := Lib.hid hsu
      have htk : totTo l k + l[k].s.size ≤ 1048576 := by omega
      generalize l[k].s = s at c3 HS htk
      generalize l[k].k = kk at c0
      generalize l[k].n = nn at c1
      generalize l[k].m = mm at c2
      clear hsu hle
      obtain ⟨t, htt⟩ : ∃ t, totTo l k = t := ⟨_, rfl⟩
      rw [htt] at htk HS
      rw [htt]
      go_wp2_with fail
      exact ⟨⟨k + 1, by go_num, by rw [HS.out]; simp, hlt, hbel.alloc hbel.size _⟩, by simp [intOf]; omega⟩
    · obtain rfl : k = l.length := by omega
      obtain ⟨t, htt⟩ : ∃ t, totTo l l.length = t := ⟨_, rfl⟩
      rw [htt]
      rw [htt] at ht
      by_cases h60 : l.length ≤ 60
      · have HB : Hid (decide ((t : Int) ≤ 300000) = (decide (l.length ≤ 60) && decide (t ≤ 300000))) := Lib.hid (by rw [decide_eq_true h60, Bool.true_and]; exact decide_eq_decide.mpr (by omega))
        have h61 : (l.length : Int) ≤ 60 := by omega
        go_wp2_with fail
        go_ret
        first | exact ⟨rfl, hbel⟩ | exact ⟨ret_bool HB.out, hbel⟩ | exact ⟨ret_bool (HB.out.trans (by rw [htt])), hbel⟩
      · have HB : Hid (false = (decide (l.length ≤ 60) && decide (t ≤ 300000))) := Lib.hid (by simp [h60])
        have h61 : ¬ (l.length : Int) ≤ 60 := by omega
        go_wp2_with fail
        go_ret
        first | exact ⟨rfl, hbel⟩ | exact ⟨ret_bool HB.out, hbel⟩ | exact ⟨ret_bool (HB.out.trans (by rw [htt])), hbel⟩
end Go.Proofs.Ytdklmeamhcgohaa
