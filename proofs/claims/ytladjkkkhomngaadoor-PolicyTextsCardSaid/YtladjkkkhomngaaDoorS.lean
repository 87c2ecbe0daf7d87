/- The contract of the law's short for two rows. -/
import Derived.Test.YtladjkkkhomngaaDoorR
namespace Go.Proofs.YtladjkkkhomngaaDoor
set_option maxRecDepth 8000
open Go.RowKit Go.Sort Go.BigFrame

set_option maxRecDepth 100000 in
set_option maxHeartbeats 1000000 in
theorem short_two (g cap : Nat) (a1 a2 : Option Addr) (n1 n2 c1 c2 : Nat) (w : World) (h0 : w.cell? ⟨g, 0, none⟩ = some (.slice a1 n1 c1)) (h1 : w.cell? ⟨g, 1, none⟩ = some (.slice a2 n2 c2)) :
    Calls Tryd.prog 5 #[.slice (some ⟨g, 0, none⟩) 2 cap] w fun e w' => e = .returned (.bool (decide (n1 ≤ 200) && decide (n2 ≤ 200))) ∧ w = w' := by
  go_enter Tryd.func5, Tryd.ntmps5
  go_wp2_with fail
  go_loopw [7] (fun i wr => ∃ k : Nat, i = .int .i64 k ∧ k ≤ 2 ∧ wr = w ∧ (1 ≤ k → n1 ≤ 200) ∧ (2 ≤ k → n2 ≤ 200)) (fun i _ => 2 - (intOf i).toNat)
  case atStart => exact ⟨0, rfl, by omega, rfl, fun h => absurd h (by omega), fun h => absurd h (by omega)⟩
  case round =>
    obtain ⟨k, rfl, hk, rfl, hn1, hn2⟩ := hrel
    have hh : k = 0 ∨ k = 1 ∨ k = 2 := by omega
    rcases hh with rfl | rfl | rfl
    · clear hn1 hn2
      by_cases h : n1 ≤ 200
      · have e1 : decide ((200 : Int) < (n1 : Int)) = false := by simp; omega
        have e2 : ¬ (200 : Int) < (n1 : Int) := by omega
        have HH := Lib.hid h
        clear h
        go_wp2_with fail
        exact ⟨⟨1, rfl, by omega, by first | trivial | rfl, fun _ => HH.out, fun h => absurd h (by omega)⟩, by simp [intOf]⟩
      · have e1 : decide ((200 : Int) < (n1 : Int)) = true := by simp; omega
        have e2 : (200 : Int) < (n1 : Int) := by omega
        have HF : Hid (false = (decide (n1 ≤ 200) && decide (n2 ≤ 200))) := Lib.hid (by simp [h])
        clear h
        go_wp2_with fail
        go_ret
        exact ⟨ret_bool HF.out, rfl⟩
    · have HH1 := Lib.hid (hn1 (by omega))
      clear hn1 hn2
      by_cases h : n2 ≤ 200
      · have e1 : decide ((200 : Int) < (n2 : Int)) = false := by simp; omega
        have e2 : ¬ (200 : Int) < (n2 : Int) := by omega
        have HH := Lib.hid h
        clear h
        go_wp2_with fail
        exact ⟨⟨2, rfl, by omega, by first | trivial | rfl, fun _ => HH1.out, fun _ => HH.out⟩, by simp [intOf]⟩
      · have e1 : decide ((200 : Int) < (n2 : Int)) = true := by simp; omega
        have e2 : (200 : Int) < (n2 : Int) := by omega
        have HF : Hid (false = (decide (n1 ≤ 200) && decide (n2 ≤ 200))) := Lib.hid (by simp [h])
        clear h
        go_wp2_with fail
        go_ret
        exact ⟨ret_bool HF.out, rfl⟩
    · have HF : Hid (true = (decide (n1 ≤ 200) && decide (n2 ≤ 200))) := Lib.hid (by rw [decide_eq_true (hn1 (by omega)), decide_eq_true (hn2 (by omega))]; rfl)
      clear hn1 hn2
      go_wp2_with fail
      go_ret
      exact ⟨ret_bool HF.out, rfl⟩

end Go.Proofs.YtladjkkkhomngaaDoor
