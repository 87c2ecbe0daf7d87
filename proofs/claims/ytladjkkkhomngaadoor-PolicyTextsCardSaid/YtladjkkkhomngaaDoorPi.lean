/- The contracts of strings.Split and Cut as Parse asks them; the parts of a set's text. -/
import Derived.Test.YtladjkkkhomngaaDoorPh
import Derived.Lib.SplitLaws
namespace Go.Proofs.YtladjkkkhomngaaDoor
set_option maxRecDepth 8000
open Go.RowKit Go.Sort Go.BigFrame

/-- The parts of a text. -/
def partsB (t : ByteArray) : List ByteArray := Lib.splitB ⟨#[44, 32]⟩ 0 (Lib.countB t ⟨#[44, 32]⟩) t
theorem split_any (t : ByteArray) (w : World) (h : TxtEnv w) (hs : t.size ≤ 100000) :
    Calls Tryd.prog 56 #[.string t, .string ⟨#[44, 32]⟩] w fun e w' => ∃ b c, e = .returned (.slice (some ⟨b, 0, none⟩) (partsB t).length c) ∧ StrsAt w' b (partsB t) ∧ Below w.heap.size w w' := by
  obtain ⟨m, hm⟩ := h.len
  refine (Tryd.strings_Split t ⟨#[44, 32]⟩ m w (by omega) hm (by decide)).mono fun e w' ⟨he, hw⟩ => ?_
  subst hw
  refine ⟨w.heap.size, Lib.countB t ⟨#[44, 32]⟩ + 1, ?_, strs_new w 9 (partsB t) _ rfl, (Below.refl _ _).alloc (Nat.le_refl _) _⟩
  rw [he, show (partsB t).length = Lib.countB t ⟨#[44, 32]⟩ + 1 from Lib.splitB_all _ (by decide) 0 _ t rfl]
def nameB (t : ByteArray) : ByteArray := ⟨(Lib.cut t.data.toList [32]).1.toArray⟩
def valB (t : ByteArray) : ByteArray := ⟨(Lib.cut t.data.toList [32]).2.1.toArray⟩
theorem cut_any (t : ByteArray) (w : World) (h : TxtEnv w) (hs : t.size ≤ 100000) :
    Calls Tryd.prog 57 #[.string t, .string ⟨#[32]⟩] w fun e w' => ∃ f, e = .returned (.tuple #[.string (nameB t), .string (valB t), .bool f]) ∧ Below w.heap.size w w' := by
  obtain ⟨m, hm⟩ := h.len
  refine (Tryd.strings_Cut t ⟨#[32]⟩ m w (by omega) hm).mono fun e w' ⟨he, n, hw⟩ => ⟨_, he, by rw [hw]; exact below_drewN' _ _⟩

/-- THE PARTS OF A SET's TEXT are its policies' texts. -/
theorem parts_fmt {l : List PolD} (h : okS l = true) (h0 : l ≠ []) : partsB (fmtS l) = l.map textP := by
  match l, h0 with
  | p :: r, _ =>
    have hc : ∀ y ∈ (textP p).data.toList :: r.map (fun p => (textP p).data.toList), (44 : UInt8) ∉ y := by
      intro y hy
      rcases List.mem_cons.1 hy with rfl | hy
      · exact textP_clean p (okS_val h p (by simp))
      · obtain ⟨q, hq, rfl⟩ := List.mem_map.1 hy
        exact textP_clean q (okS_val h q (by simp [hq]))
    have e1 : (fmtS (p :: r)).data.toList = Lib.join ((textP p).data.toList :: r.map (fun p => (textP p).data.toList)) [44, 32] := by
      unfold fmtS
      rw [if_pos h]
      simp
    have hcount : Lib.countB (fmtS (p :: r)) ⟨#[44, 32]⟩ = r.length := by
      have := count_joined _ _ hc
      rw [← e1, List.length_map] at this
      exact this
    have h2 := Lib.splitB_data ⟨#[44, 32]⟩ 0 r.length (fmtS (p :: r))
    have h3 := split_join _ _ hc
    rw [List.length_map, ← e1] at h3
    have h4 : (partsB (fmtS (p :: r))).map (·.data.toList) = ((p :: r).map textP).map (·.data.toList) := by
      unfold partsB
      rw [hcount, h2]
      refine h3.trans ?_
      simp
    refine List.map_inj_right (fun x y e => ?_) |>.1 h4
    cases x; cases y; simp only at e
    rw [Array.toList_inj.1 e]

end Go.Proofs.YtladjkkkhomngaaDoor
