/- The contracts of policy.kindOf and valueOf. -/
import Derived.Test.YtladjkkkhomngaaDoorPd
namespace Go.Proofs.YtladjkkkhomngaaDoor
set_option maxRecDepth 8000
open Go.RowKit Go.Sort Go.BigFrame

theorem bytes_eq {a b : ByteArray} : (a.toList == b.toList) = true ↔ a = b := by
  rw [beq_iff_eq]
  refine ⟨fun h => ?_, fun h => by rw [h]⟩
  obtain ⟨⟨x⟩⟩ := a
  obtain ⟨⟨y⟩⟩ := b
  rw [ByteArray.toList_mk, ByteArray.toList_mk] at h
  rw [h]
theorem bytes_yes {a b : ByteArray} (h : a = b) : (a.toList == b.toList) = true := bytes_eq.2 h
theorem bytes_no {a b : ByteArray} (h : ¬ a = b) : (a.toList == b.toList) = false := by
  cases e : (a.toList == b.toList)
  · rfl
  · exact absurd (bytes_eq.1 e) h
/-- A kind's name, a kind's word. -/
def nameN (k : Nat) : ByteArray := (wordsN k).getD 0 ⟨#[]⟩
def wordN (k j : Nat) : ByteArray := (wordsN k).getD j ⟨#[]⟩
/-- No kind below n has the name. -/
def noName (s : ByteArray) (n : Nat) : Prop := ∀ k, 1 ≤ k → k < n → nameN k ≠ s
def KindIs (s : ByteArray) (k : Nat) : Prop := (k = 0 ∧ noName s 14) ∨ (1 ≤ k ∧ k ≤ 13 ∧ nameN k = s)

set_option maxRecDepth 100000 in
set_option maxHeartbeats 2000000 in
theorem kindOf_any (s : ByteArray) (w : World) (h : TxtEnv w) :
    Calls Tryd.prog 58 #[.string s] w fun e w' => ∃ k : Nat, e = .returned (.int .i64 k) ∧ KindIs s k ∧ Below w.heap.size w w' := by
  have HT := Lib.hid h.text
  have HP := Lib.hid h.sorts.pos
  clear h
  go_enter Tryd.func58, Tryd.ntmps58
  go_wp2_with fail
  go_loopw [3] (fun k wr => ∃ n : Nat, k = .int .i64 ((n : Int) + 1) ∧ n ≤ 13 ∧ noName s (n + 1) ∧ Below w.heap.size w wr) (fun k _ => 14 - (intOf k).toNat)
  case atStart => exact ⟨0, rfl, by omega, fun k h1 h2 => absurd h2 (by omega), Below.refl _ _⟩
  case round =>
    obtain ⟨n, rfl, hn, hno, hbel⟩ := hrel
    have HB := Lib.hid hbel
    have HN := Lib.hid hno
    clear hbel hno
    by_cases hlt : n < 13
    · have hn1 : (n : Int) + 1 ≤ 13 := by omega
      have hn2 : (0 : Int) ≤ (n : Int) + 1 := by omega
      have hn3 : decide ((n : Int) + 1 ≤ 13) = true := by simp; omega
      have hn4 : (n : Int) + 1 < 14 := by omega
      have hn5 : ((n : Int) + 1).toNat = n + 1 := by omega
      have ht : wr.cell? ⟨0, (n + 1) * 6, none⟩ = some (.string (nameN (n + 1))) := (HT.out.below HB.out HP.out) (n + 1) (by omega) (by omega) 0 (by omega)
      obtain ⟨nm, hnm⟩ : ∃ nm, nameN (n + 1) = nm := ⟨_, rfl⟩
      rw [hnm] at ht
      have HNM := Lib.hid hnm
      clear hnm
      by_cases he : nm = s
      · have e1 := bytes_yes he
        have HE := Lib.hid he
        clear he
        go_wp2_with fail
        go_ret
        exact ⟨n + 1, by first | rfl | simp, .inr ⟨by omega, by omega, by rw [HNM.out]; exact HE.out⟩, HB.out⟩
      · have e1 := bytes_no he
        have HE := Lib.hid he
        clear he
        go_wp2_with fail
        exact ⟨⟨n + 1, by go_num, by omega, fun k h1 h2 => by
          by_cases e : k = n + 1
          · subst e; rw [HNM.out]; exact HE.out
          · exact HN.out k h1 (by omega), HB.out⟩, by simp [intOf]; omega⟩
    · obtain rfl : n = 13 := by omega
      go_wp2_with fail
      go_ret
      exact ⟨0, rfl, .inl ⟨rfl, HN.out⟩, HB.out⟩

end Go.Proofs.YtladjkkkhomngaaDoor
