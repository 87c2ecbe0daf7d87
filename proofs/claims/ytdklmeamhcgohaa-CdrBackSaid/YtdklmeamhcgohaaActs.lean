/-
  PROVED HERE: acts in memory: one in a block, many at a place, as an argument; what the law's function light returns for them; laws on blocks.
-/
import Derived.Test.YtdklmeamhcgohaaM
import Derived.Test.YtdklmeamhcgohaaH
import Derived.Test.YtdklmeamhcgohaaRows
import Derived.Deep.RegionHeld
import Derived.Deep.Slices
import Derived.Lib.SmallJoins
namespace Go.Proofs.Ytdklmeamhcgohaa
open Go.RowKit Go.ChangeShapes Go.WideShapes

theorem keeps_set {W : World} {B : Nat} {p : Addr} {u : Value} {cs : Array Value} {t : TypeId} {fz : Nat × Nat} (h : W.heap[p.block]? = some (.cells cs t fz)) : KeepsFrom B W (W.setCell p u) := by
  refine ⟨by simp [World.setCell], fun k o _ hk ho => ?_⟩
  rw [Below.heap_setCell W p u k (fun e => ?_)]
  · exact hk
  · subst e
    rw [h] at hk
    cases hk
    cases ho

theorem below_drew (W : World) : Below W.heap.size W W.drew := ⟨rfl, rfl, rfl, Nat.le_refl _, fun _ _ => rfl⟩
theorem below_drewN' (W : World) (n : Nat) : Below W.heap.size W (W.drewN n) := ⟨rfl, rfl, rfl, Nat.le_refl _, fun _ _ => rfl⟩

/-- The act's block, cell by cell. -/
structure ActAt (W : World) (g : Nat) (k n m : Int) (s : ByteArray) : Prop where
  c0 : W.cell? ⟨g, 0, none⟩ = some (.int .i64 k)
  c1 : W.cell? ⟨g, 1, none⟩ = some (.int .i64 n)
  c2 : W.cell? ⟨g, 2, none⟩ = some (.int .i64 m)
  c3 : W.cell? ⟨g, 3, none⟩ = some (.string s)

theorem ActAt.of {W : World} {g : Nat} {k n m : Int} {s : ByteArray} (h : W.heap[g]? = some (actO k n m s)) : ActAt W g k n m s := by
  constructor <;> simp [World.cell?, h, actO]

set_option maxHeartbeats 400000 in
theorem from_any (a : Int) (w : World) : Calls Try.prog 40 #[.int .i64 a] w fun e w' => e = .returned (.int .i64 (atN a)) ∧ w = w' := by
  by_cases h1 : a < 0
  · have hA : Hid (0 = atN a) := Lib.hid (by unfold atN; simp [h1])
    go_enter Try.func40, Try.ntmps40
    go_wp2
    go_ret
    exact ⟨ret_int hA.out, rfl⟩
  · by_cases h2 : 7 < a
    · have hA : Hid (0 = atN a) := Lib.hid (by unfold atN; simp [h2])
      go_enter Try.func40, Try.ntmps40
      go_wp2
      go_ret
      exact ⟨ret_int hA.out, rfl⟩
    · have hA : Hid (a = atN a) := Lib.hid (by unfold atN; simp; omega)
      go_enter Try.func40, Try.ntmps40
      go_wp2
      go_ret
      exact ⟨ret_int hA.out, rfl⟩

/-- An act. -/
structure ActD where
  k : Int
  n : Int
  m : Int
  s : ByteArray
  deriving Inhabited

/-- Acts lie at a place. -/
def ActsAt (W : World) (b off : Nat) (l : List ActD) : Prop := ∀ i (h : i < l.length), W.cell? ⟨b, off + i * 4, none⟩ = some (.int .i64 l[i].k) ∧ W.cell? ⟨b, off + i * 4 + 1, none⟩ = some (.int .i64 l[i].n) ∧
  W.cell? ⟨b, off + i * 4 + 2, none⟩ = some (.int .i64 l[i].m) ∧ W.cell? ⟨b, off + i * 4 + 3, none⟩ = some (.string l[i].s)

theorem ActsAt.below {W W' : World} {B b off : Nat} {l : List ActD} (h : ActsAt W b off l) (hb : Below B W W') (hB : b < B) : ActsAt W' b off l := fun i hi => by
  obtain ⟨h0, h1, h2, h3⟩ := h i hi
  exact ⟨(hb.cell hB).trans h0, (hb.cell hB).trans h1, (hb.cell hB).trans h2, (hb.cell hB).trans h3⟩

/-- How many bytes the texts of the first k acts have. -/
def totTo (l : List ActD) (k : Nat) : Nat := ((l.take k).map fun x => x.s.size).sum
theorem totTo_zero (l : List ActD) : totTo l 0 = 0 := by simp [totTo]
theorem totTo_succ (l : List ActD) (k : Nat) (h : k < l.length) : totTo l (k + 1) = totTo l k + l[k].s.size := by
  unfold totTo
  rw [List.take_succ_eq_append_getElem h, List.map_append, List.sum_append]
  simp only [List.map_cons, List.map_nil, List.sum_cons, List.sum_nil, Nat.add_zero]
theorem totTo_le (l : List ActD) (k : Nat) : totTo l k ≤ totTo l l.length := by
  unfold totTo
  rw [List.take_length]
  conv => rhs; rw [← List.take_append_drop k l]
  rw [List.map_append, List.sum_append]
  omega

set_option maxRecDepth 100000 in
set_option maxHeartbeats 1600000 in
theorem light_empty (ao : Option Addr) (cap : Nat) (w : World) :
    Calls Try.prog 9 #[.slice ao 0 cap] w fun e w' => e = .returned (.bool true) ∧ Below w.heap.size w w' := by
  go_enter Try.func9, Try.ntmps9
  go_wp2_with fail
  go_loopw [3, 8] (fun n i wr => n = .int .i64 0 ∧ i = .int .i64 0 ∧ wr = w) (fun _ _ _ => 0)
  case atStart => exact ⟨rfl, rfl, rfl⟩
  case round =>
    obtain ⟨rfl, rfl, rfl⟩ := hrel
    go_wp2_with fail
    go_ret
    exact ⟨rfl, Below.refl _ _⟩

theorem totTo_bd (l : List ActD) (hs : ∀ i (h : i < l.length), l[i].s.size ≤ 140737488351232) : ∀ k, totTo l k ≤ k * 140737488351232
  | 0 => by rw [totTo_zero]; omega
  | k + 1 => by
    have ih := totTo_bd l hs k
    by_cases h : k < l.length
    · have h1 := totTo_succ l k h
      have h2 := hs k h
      omega
    · have h1 : totTo l (k + 1) = totTo l k := by
        unfold totTo
        rw [List.take_of_length_le (by omega), List.take_of_length_le (by omega)]
      omega

/-- What light adds up: the sum, as long as it is one of 60 acts at most. -/
structure SumAt (l : List ActD) (k : Nat) (v : Int) : Prop where
  lo : -9223372036854775808 ≤ v
  hi : v ≤ 9223372036854775807
  eq : k ≤ 60 → v = (totTo l k : Nat)

theorem SumAt.next {l : List ActD} {k : Nat} {v : Int} (hs : ∀ i (h : i < l.length), l[i].s.size ≤ 140737488351232) (h : SumAt l k v) (hk : k < l.length) : SumAt l (k + 1) (wrap64 (v + (l[k].s.size : Int))) := by
  refine ⟨by unfold wrap64; omega, by unfold wrap64; omega, fun h60 => ?_⟩
  have h1 := h.eq (by omega)
  have h2 := totTo_bd l hs k
  have h3 := hs k hk
  have h4 := totTo_succ l k hk
  rw [h1]
  unfold wrap64
  omega

set_option maxRecDepth 100000 in
set_option maxHeartbeats 1600000 in
theorem light_wide (b off cap : Nat) (l : List ActD) (w : World) (h : ActsAt w b off l) (hb : b < w.heap.size) (hl : l.length ≤ maxLen) (hs : ∀ i (h : i < l.length), l[i].s.size ≤ 140737488351232) :
    Calls Try.prog 9 #[.slice (some ⟨b, off, none⟩) l.length cap] w fun e w' => e = .returned (.bool (decide (l.length ≤ 60) && decide (totTo l l.length ≤ 300000))) ∧ Below w.heap.size w w' := by
  have H := Lib.hid h
  have HS := Lib.hid hs
  have hl2 : l.length ≤ 9223372036854775807 := by unfold maxLen at hl; omega
  have HL := Lib.hid hl2
  clear h hs hl hl2
  go_enter Try.func9, Try.ntmps9
  go_wp2_with fail
  go_loopw [3, 8] (fun n i wr => ∃ (k : Nat) (v : Int), i = .int .i64 k ∧ n = .int .i64 v ∧ SumAt l k v ∧ k ≤ l.length ∧ Below w.heap.size w wr) (fun _ i _ => l.length - (intOf i).toNat)
  case atStart => exact ⟨0, 0, rfl, rfl, ⟨by omega, by omega, fun _ => by rw [totTo_zero]; rfl⟩, Nat.zero_le _, Below.refl _ _⟩
  case round =>
    obtain ⟨k, v, rfl, rfl, hv, hk, hbel⟩ := hrel
    have HV := Lib.hid hv
    clear hv
    by_cases hlt : k < l.length
    · obtain ⟨c0, c1, c2, c3⟩ := (H.out.below hbel hb) k hlt
      have HN := Lib.hid (HV.out.next HS.out hlt)
      generalize l[k].s = s at c3 HN
      generalize l[k].k = kk at c0
      generalize l[k].n = nn at c1
      generalize l[k].m = mm at c2
      have hk64 : (k : Int) + 1 ≤ 9223372036854775807 := by have := HL.out; omega
      go_wp2_with fail
      exact ⟨⟨k + 1, _, by go_num, rfl, HN.out, hlt, hbel.alloc hbel.size _⟩, by simp [intOf]; omega⟩
    · obtain rfl : k = l.length := by omega
      obtain ⟨t, htt⟩ : ∃ t, totTo l l.length = t := ⟨_, rfl⟩
      have hv := HV.out.eq
      have hgoal : (decide (l.length ≤ 60) && decide (totTo l l.length ≤ 300000)) = (decide (l.length ≤ 60) && decide (t ≤ 300000)) := by rw [htt]
      have HG := Lib.hid hgoal
      clear hgoal
      rw [htt] at hv
      have HT := Lib.hid htt
      have HQ := Lib.hid hv
      clear htt hv
      by_cases h60 : l.length ≤ 60
      · have hvt := HQ.out h60
        have HB : Hid (decide (v ≤ 300000) = (decide (l.length ≤ 60) && decide (t ≤ 300000))) := Lib.hid (by rw [decide_eq_true h60, Bool.true_and]; exact decide_eq_decide.mpr (by omega))
        have h61 : (l.length : Int) ≤ 60 := by omega
        clear hvt
        go_wp2_with fail
        go_ret
        exact ⟨ret_bool (HB.out.trans HG.out.symm), hbel⟩
      · have HB : Hid (false = (decide (l.length ≤ 60) && decide (t ≤ 300000))) := Lib.hid (by simp [h60])
        have h61 : ¬ (l.length : Int) ≤ 60 := by omega
        go_wp2_with fail
        go_ret
        first | exact ⟨rfl, hbel⟩ | exact ⟨ret_bool (HB.out.trans HG.out.symm), hbel⟩
/-! ### The argument -/

theorem Try.cells30 : Try.prog.cellsOf 30 = 4 := by kernel_rfl
theorem Try.cells3 : Try.prog.cellsOf 3 = 1 := by kernel_rfl
theorem Try.cells9 : Try.prog.cellsOf 9 = 1 := by kernel_rfl

theorem open_act {H : Type} {enc : TypeId × Value → H} {W : World} {sp : Nat → Bool} {n : Nat} {cs : List Value} {x : DataW H × List MemPlace} (h : DataW.trod enc Try.prog W 0 sp true n 30 cs = some x) :
    ∃ y : ActD, cs = [.int .i64 y.k, .int .i64 y.n, .int .i64 y.m, .string y.s] ∧ x.1 = .agg [.lit (.int .i64 y.k), .lit (.int .i64 y.n), .lit (.int .i64 y.m), .lit (.string y.s.data.toList)] := by
  obtain ⟨y0, y1, y2, y3, m, rfl, hl, h0, h1, h2, h3⟩ := Go.Joins.trod_struct4 Try.underlying30 h
  rw [Try.cells30] at hl
  match cs, hl with
  | [v0, v1, v2, v3], _ =>
    simp [Try.cells3] at h0 h1 h2
    simp [Try.cells9] at h3
    obtain ⟨k, e0, rfl, _⟩ := DataW.trod_int Try.underlying3 h0
    obtain ⟨nn, e1, rfl, _⟩ := DataW.trod_int Try.underlying3 h1
    obtain ⟨mm, e2, rfl, _⟩ := DataW.trod_int Try.underlying3 h2
    obtain ⟨s, e3, rfl, _⟩ := DataW.trod_string Try.underlying9 h3
    simp at e0 e1 e2 e3
    subst e0 e1 e2 e3
    exact ⟨⟨k, nn, mm, s⟩, rfl, rfl⟩
end Go.Proofs.Ytdklmeamhcgohaa
