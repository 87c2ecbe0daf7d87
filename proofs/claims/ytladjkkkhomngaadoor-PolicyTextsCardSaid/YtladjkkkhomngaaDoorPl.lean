/- THE MATHEMATICS of texts, fourth part: how many parts a text has, and how long they are. -/
import Derived.Test.YtladjkkkhomngaaDoorPk
namespace Go.Proofs.YtladjkkkhomngaaDoor
set_option maxRecDepth 8000
open Go.RowKit Go.Sort Go.BigFrame

theorem index_room : ∀ (s : List UInt8), Lib.index s [44, 32] = -1 ∨ (0 ≤ Lib.index s [44, 32] ∧ (Lib.index s [44, 32]).toNat + 2 ≤ s.length)
  | [] => .inl (by simp [Lib.index])
  | b :: l => by
    rw [Lib.index]
    split
    · rename_i h
      right
      refine ⟨by simp, ?_⟩
      match l, h with
      | [], h => simp [List.isPrefixOf] at h
      | c :: r, _ => simp
    · rcases index_room l with h | ⟨h1, h2⟩
      · left
        rw [h, if_pos (by rfl)]
      · right
        rw [if_neg (by simp; omega)]
        refine ⟨by omega, ?_⟩
        simp only [List.length_cons]
        omega
theorem count_room : ∀ (f : Nat) (s : List UInt8), 2 * Lib.countFrom [44, 32] f s ≤ s.length
  | 0, s => by simp [Lib.countFrom]
  | f + 1, s => by
    rw [Lib.countFrom]
    rcases index_room s with h | ⟨h1, h2⟩
    · rw [h, if_pos (by rfl)]; simp
    · rw [if_neg (by simp; omega)]
      have ih := count_room f (s.drop ((Lib.index s [44, 32]).toNat + ([44, 32] : List UInt8).length))
      rw [List.length_drop] at ih
      simp only [List.length_cons, List.length_nil] at ih
      simp only [List.length_cons, List.length_nil]
      omega
theorem parts_len (t : ByteArray) (h : t.size ≤ 1000) : (partsB t).length ≤ 1000 := by
  rw [show (partsB t).length = Lib.countB t ⟨#[44, 32]⟩ + 1 from Lib.splitB_all _ (by decide) 0 _ t rfl]
  have h1 : 2 * Lib.countB t ⟨#[44, 32]⟩ ≤ t.data.toList.length := count_room _ t.data.toList
  rw [Array.length_toList] at h1
  have h2 : t.data.size ≤ 1000 := h
  omega
theorem split_sizes (sep : List UInt8) : ∀ (k : Nat) (s : List UInt8), ∀ x ∈ Lib.splitK sep 0 k s, x.length ≤ s.length
  | 0, s, x, hx => by
    simp only [Lib.splitK, List.mem_singleton] at hx
    rw [hx]
    exact Nat.le_refl _
  | k + 1, s, x, hx => by
    rw [Lib.splitK] at hx
    split at hx
    · simp only [List.mem_singleton] at hx
      rw [hx]
      exact Nat.le_refl _
    · rcases List.mem_cons.1 hx with rfl | hx
      · rw [List.length_take]; omega
      · have := split_sizes sep k _ x hx
        rw [List.length_drop] at this
        omega
theorem parts_sizes (t : ByteArray) (h : t.size ≤ 1000) : ∀ i (h : i < (partsB t).length), ((partsB t)[i]).size ≤ 1000 := fun i hi => by
  have h1 := Lib.splitB_data ⟨#[44, 32]⟩ 0 (Lib.countB t ⟨#[44, 32]⟩) t
  have h2 : ((partsB t)[i]).data.toList ∈ Lib.splitK [44, 32] 0 (Lib.countB t ⟨#[44, 32]⟩) t.data.toList := by
    have : ((partsB t)[i]).data.toList ∈ (partsB t).map (·.data.toList) := List.mem_map.2 ⟨_, List.getElem_mem hi, rfl⟩
    unfold partsB at this
    rw [h1] at this
    exact this
  have h3 := split_sizes _ _ _ _ h2
  rw [Array.length_toList, Array.length_toList] at h3
  have h4 : t.data.size ≤ 1000 := h
  exact Nat.le_trans h3 h4

end Go.Proofs.YtladjkkkhomngaaDoor
