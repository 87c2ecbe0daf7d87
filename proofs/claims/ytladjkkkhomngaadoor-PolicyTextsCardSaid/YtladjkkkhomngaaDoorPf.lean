/- The contracts of policy.valueOf, and of Atoi for whatever string. -/
import Derived.Test.YtladjkkkhomngaaDoorPe
namespace Go.Proofs.YtladjkkkhomngaaDoor
set_option maxRecDepth 8000
open Go.RowKit Go.Sort Go.BigFrame

/-- No word of a kind below the n-th. -/
def noWord (k : Nat) (s : ByteArray) (n : Nat) : Prop := ∀ j, 1 ≤ j → j < n → wordN k j ≠ s
def ValueIs (k : Nat) (s : ByteArray) (n : Nat) : Prop := (n = 0 ∧ noWord k s 5) ∨ (1 ≤ n ∧ n ≤ 4 ∧ wordN k n = s ∧ noWord k s n)

set_option maxRecDepth 100000 in
set_option maxHeartbeats 2000000 in
theorem valueOf_any (k : Nat) (s : ByteArray) (w : World) (h : TxtEnv w) (hk1 : 1 ≤ k) (hk2 : k ≤ 13) :
    Calls Tryd.prog 59 #[.int .i64 k, .string s] w fun e w' => ∃ n : Nat, e = .returned (.int .i64 n) ∧ ValueIs k s n ∧ Below w.heap.size w w' := by
  have HT := Lib.hid fun wx (hx : Below w.heap.size w wx) => (h.text.below hx h.sorts.pos) k hk1 hk2
  have g1 : (0 : Int) ≤ (k : Int) := by omega
  have g2 : (k : Int) < 14 := by omega
  clear h hk1 hk2
  go_enter Tryd.func59, Tryd.ntmps59
  go_wp2_with fail
  go_loopw [6] (fun i wr => ∃ n : Nat, i = .int .i64 n ∧ n ≤ 4 ∧ noWord k s (n + 1) ∧ Below w.heap.size w wr) (fun i _ => 4 - (intOf i).toNat)
  case atStart => exact ⟨0, rfl, by omega, fun j h1 h2 => absurd h2 (by omega), Below.refl _ _⟩
  case round =>
    obtain ⟨n, rfl, hn, hno, hbel⟩ := hrel
    have HB := Lib.hid hbel
    have HN := Lib.hid hno
    clear hbel hno
    by_cases hlt : n < 4
    · have hn1 : (n : Int) < 4 := by omega
      have hn2 : (0 : Int) ≤ (n : Int) := by omega
      have hn3 : decide ((n : Int) < 4) = true := by simp; omega
      have ht : wr.cell? ⟨0, k * 6 + 1 + n, none⟩ = some (.string (wordN k (n + 1))) := by rw [show k * 6 + 1 + n = k * 6 + (n + 1) by omega]; exact HT.out wr HB.out (n + 1) (by omega)
      obtain ⟨nm, hnm⟩ : ∃ nm, wordN k (n + 1) = nm := ⟨_, rfl⟩
      rw [hnm] at ht
      have HNM := Lib.hid hnm
      clear hnm
      by_cases he : nm = s
      · have e1 := bytes_yes he
        have HE := Lib.hid he
        clear he
        go_wp2_with fail
        go_ret
        exact ⟨n + 1, by first | rfl | (simp; omega), .inr ⟨by omega, by omega, by rw [HNM.out]; exact HE.out, HN.out⟩, HB.out⟩
      · have e1 := bytes_no he
        have HE := Lib.hid he
        clear he
        go_wp2_with fail
        exact ⟨⟨n + 1, by go_num, by omega, fun j h1 h2 => by
          by_cases e : j = n + 1
          · subst e; rw [HNM.out]; exact HE.out
          · exact HN.out j h1 (by omega), HB.out⟩, by simp [intOf]; omega⟩
    · obtain rfl : n = 4 := by omega
      go_wp2_with fail
      go_ret
      exact ⟨0, rfl, .inl ⟨rfl, HN.out⟩, HB.out⟩

/-- The number that Atoi returns, whatever the string. -/
def atoiV (s : ByteArray) : Int := match Lib.atoiAll s.data.toList with
  | .ok v => v
  | .range => Lib.atoiSat s.data.toList
  | _ => 0
theorem atoi_any (s : ByteArray) (w : World) (h : TxtEnv w) (hs : s.size ≤ 100000) :
    Calls Tryd.prog 60 #[.string s] w fun e w' => ∃ ev, e = .returned (.tuple #[.int .i64 (atoiV s), ev]) ∧ Below w.heap.size w w' := by
  obtain ⟨tp, p, hp⟩ := h.syn
  obtain ⟨tq, q, hq⟩ := h.rng
  cases ha : Lib.atoiAll s.data.toList with
  | ok v =>
    have hv : atoiV s = v := by unfold atoiV; rw [ha]
    refine (Tryd.strconv_Atoi_ok s (by omega) v ha w).mono fun e w' ⟨he, hw⟩ => ⟨_, by rw [hv]; exact he, ?_⟩
    rcases hw with rfl | ⟨t, rfl⟩
    · exact Below.refl _ _
    · exact Go.Joins.below_bytesWorld _ _ _ _ (Nat.le_refl _)
  | range =>
    have hv : atoiV s = Lib.atoiSat s.data.toList := by unfold atoiV; rw [ha]
    exact (Tryd.strconv_Atoi_range s (by omega) ha _ w hq (.inr ⟨tq, q, rfl⟩)).mono fun e w' ⟨N, he, _, _, hb⟩ => ⟨_, by rw [hv]; exact he, hb⟩
  | _ =>
    have hv : atoiV s = 0 := by unfold atoiV; rw [ha]
    exact (Tryd.strconv_Atoi_syntax s (by omega) ha _ w hp (.inr ⟨tp, p, rfl⟩)).mono fun e w' ⟨N, he, _, _, hb⟩ => ⟨_, by rw [hv]; exact he, hb⟩

end Go.Proofs.YtladjkkkhomngaaDoor
