/- The contract of slices.SortFunc at policies, by their kinds. -/
import Derived.Test.YtladjkkkhomngaaDoorSb
import Derived.Test.YtladjkkkhomngaaDoorSort
import Derived.Lib.OwnBridge
namespace Go.Proofs.YtladjkkkhomngaaDoor
set_option maxRecDepth 8000
open Go.RowKit Go.Sort Go.BigFrame Go.Shelf

/-- A policy of a kind. -/
abbrev KP := {p : PolD // isK p.k = true}
instance : Inhabited KP := ⟨⟨⟨1, 1⟩, rfl⟩⟩
def encK (x : KP) : List Value := [.int .i64 x.1.k, .int .i64 x.1.v]
def cfK (x y : KP) : Int := x.1.k - y.1.k

set_option maxHeartbeats 1000000 in
theorem of2_any (x y : KP) (W : World) : Calls Tryd.prog 37 #[.agg #[.int .i64 x.1.k, .int .i64 x.1.v], .agg #[.int .i64 y.1.k, .int .i64 y.1.v]] W fun e w' => e = .returned (.int .i64 (cfK x y)) ∧ ∃ q os', w' = grow (W.drewN q) os' := by
  obtain ⟨⟨a, va⟩, ha⟩ := x
  obtain ⟨⟨b, vb⟩, hb⟩ := y
  simp only [isK, Bool.and_eq_true, decide_eq_true_eq] at ha hb
  obtain ⟨a1, a2⟩ := ha
  obtain ⟨b1, b2⟩ := hb
  unfold cfK
  simp only
  go_enter Tryd.func37, Tryd.ntmps37
  go_wp2_with fail
  go_ret
  exact ⟨rfl, 0, _, by rw [alloc_eq_grow, alloc_eq_grow, grow_grow]; rfl⟩

theorem cmpLays (blk off size : Nat) (w : World) : CmpLays Tryd.prog 37 #[] encK 2 cfK blk off size w := fun _ _ _ _ x y => of2_any x y _

theorem ltK (x y : KP) : ltOf cfK x y = decide (x.1.k < y.1.k) := by
  unfold ltOf cfK
  by_cases h : x.1.k < y.1.k
  · rw [decide_eq_true h, decide_eq_true (by omega)]
  · rw [decide_eq_false h, decide_eq_false (by omega)]
theorem swoK : SWO (ltOf cfK) where
  irrefl x := by rw [ltK]; simp
  trans x y z h1 h2 := by rw [ltK] at *; simp at *; omega
  ntrans x y z h1 h2 := by rw [ltK] at *; simp at *; omega

theorem enters37 : ∀ args w, (callFunc 37 args).run Tryd.prog w = .ok (.enter 37 args) w := enters_of Tryd.func37 (by kernel_rfl) rfl

/-- Policies as elements. -/
def kps (l : List PolD) (h : ∀ p ∈ l, isK p.k = true) : Array KP := (l.attachWith (fun p => isK p.k = true) h).toArray
theorem kps_size (l : List PolD) (h) : (kps l h).size = l.length := by simp [kps]
theorem kps_at (l : List PolD) (h) (i : Nat) (hi : i < l.length) : ((kps l h)[i]!).1 = l[i] := by
  rw [getElem!_pos (kps l h) i (by rw [kps_size]; exact hi)]
  simp [kps]
theorem kps_map (l : List PolD) (h) : (kps l h).toList.map Subtype.val = l := by simp [kps]

theorem holds_pols {W : World} {b : Nat} {l : List PolD} (hk : ∀ p ∈ l, isK p.k = true) (h : PolsAt W b 0 l) (hf : ∀ o, W.frozen? ⟨b, o, none⟩ = false) : HoldsK encK 2 W b 0 (kps l hk) := by
  intro t ht
  rw [size_flatK, kps_size] at ht
  refine ⟨?_, hf _⟩
  rw [get_flatK _ _ _ _ (by rw [kps_size]; exact ht)]
  have hi : t / 2 < l.length := by omega
  obtain ⟨c0, c1⟩ := h (t / 2) hi
  have e := kps_at l hk (t / 2) hi
  have hm : t % 2 = 0 ∨ t % 2 = 1 := by omega
  rcases hm with hm | hm
  · rw [hm, show 0 + t = 0 + t / 2 * 2 by omega, c0]
    simp only [encK, e]
    rfl
  · rw [hm, show 0 + t = 0 + t / 2 * 2 + 1 by omega, c1]
    simp only [encK, e]
    rfl
theorem pols_of_holds {W : World} {b : Nat} {d : Array KP} (h : HoldsK encK 2 W b 0 d) : PolsAt W b 0 (d.toList.map Subtype.val) := by
  intro i hi
  have hi' : i < d.size := by simpa using hi
  have c0 := (h.cell hi' (show 0 < 2 by decide)).1
  have c1 := (h.cell hi' (show 1 < 2 by decide)).1
  rw [getElem!_pos d i hi'] at c0 c1
  refine ⟨?_, ?_⟩
  · rw [show 0 + i * 2 = 0 + i * 2 + 0 by omega, c0]
    simp [encK]
  · rw [c1]
    simp [encK]

theorem sort_any (l : List PolD) (hk : ∀ p ∈ l, isK p.k = true) (b cap : Nat) (w : World) (hp : PolsAt w b 0 l) (hf : ∀ o, w.frozen? ⟨b, o, none⟩ = false) (hb : b < w.heap.size) (hl : l.length ≤ 1000000) :
    Calls Tryd.prog 36 #[.slice (some ⟨b, 0, none⟩) l.length cap, .func (.func 37) #[] #[]] w fun e w' => e = .returned (.tuple #[]) ∧ ∃ s : List PolD, s.Perm l ∧ s.Pairwise (fun x y => x.k ≤ y.k) ∧ PolsAt w' b 0 s ∧ b < w'.heap.size ∧ ∀ B w0, B ≤ b → Below B w0 w → Below B w0 w' := by
  have hcon := AnyQ.slices_SortFunc Tryd.sortPol 2 Tryd.isAgg24 Tryd.sizeOf24 encK (fun _ => rfl) (fun x v hv => by simp [encK] at hv; rcases hv with rfl | rfl <;> rfl) cfK swoK 37 #[] b 0 cap (kps l hk) w enters37 (cmpLays b 0 _ w) (holds_pols hk hp hf) hb (by rw [kps_size]; omega)
  rw [kps_size] at hcon
  change Calls Tryd.prog 36 _ _ _ at hcon
  refine hcon.mono ?_
  rintro e w' ⟨rfl, d', n, os, hpm, hso, rfl⟩
  obtain ⟨hsz, _, hperm⟩ := hpm
  have hsz' : d'.size = l.length := by rw [hsz, kps_size]
  have e1 : d'.extract 0 l.length = d' := by rw [← hsz']; simp
  have e2 : (kps l hk).extract 0 l.length = kps l hk := by
    have := kps_size l hk
    rw [← this]; simp
  rw [e1, e2] at hperm
  have hH := holdsK_sortWorldK encK 2 w b 0 n (kps l hk) d' os hb (holds_pols hk hp hf) hsz
  refine ⟨rfl, d'.toList.map Subtype.val, ?_, ?_, pols_of_holds hH, lt_sortWorldK encK 2 w b 0 n d' os hb, fun B w0 hB h0 => ?_⟩
  · have := hperm.map Subtype.val
    rwa [kps_map] at this
  · refine List.pairwise_map.2 (List.pairwise_iff_getElem.2 fun i j hi hj hij => ?_)
    have := hso i j (Nat.zero_le _) hij (by rw [← hsz']; simpa using hj)
    rw [ltK, getElem!_pos d' i (by simpa using hi), getElem!_pos d' j (by simpa using hj)] at this
    have h2 := of_decide_eq_false this
    simp only [Array.getElem_toList]
    omega
  · have h1 : Below B w0 (putRowK encK 2 (Sort.ahead w n) b 0 d') := Lib.below_putRow (enc := id) h0 hB
    have h2 : w.heap.size = (putRowK encK 2 (Sort.ahead w n) b 0 d').heap.size := by simp [putRowK, putRow, mapBlock, Sort.ahead]
    exact h1.trans ((below_regrown (putRowK encK 2 (Sort.ahead w n) b 0 d') _ os).mono (by rw [← h2]; omega))

end Go.Proofs.YtladjkkkhomngaaDoor
